/- Package segment: join, ahead, one, Length. -/
import Derived.Test.YtnkcnfkonifmhaaZSegM
import Derived.Deep.DeepCutAuto
namespace Go.Proofs.Ytnkcnfkonifmhaa
open Go.RowKit
set_option linter.unusedVariables false

/-- Bytes of a segment, made, and no error. -/
def SegTo (w : World) (m : Nat) (zs : List Int) (e : Ending) (w' : World) : Prop :=
  ∃ g c, e = .returned (.tuple #[.slice (some ⟨g, 0, none⟩) m c, .int .i64 0]) ∧ OwnB w' w.heap.size (.slice (some ⟨g, 0, none⟩) m c) zs ∧ Below w.heap.size w w'
theorem join_no (h : Hd) (ok : HdOk h) (A : Option Addr) (n c : Nat) (d : ByteArray) (w : World) (hf : ¬ fitF h) :
    Calls Try.prog 20 #[.agg #[.int .u16 h.src, .int .u16 h.dst, .int .u32 h.seq, .int .u32 h.ack, .int .u8 h.off, .int .u8 h.ace, .int .u8 h.fl, .int .u16 h.win, .int .u16 h.sum, .int .u16 h.urg], .slice A n c, .string d] w fun e w' => e = .returned (.tuple #[.slice none 0 0, .int .i64 2]) ∧ Below w.heap.size w w' := by
  have L0 := new_alloc (new_refl w) (.cells #[.int .u16 h.src, .int .u16 h.dst, .int .u32 h.seq, .int .u32 h.ack, .int .u8 h.off, .int .u8 h.ace, .int .u8 h.fl, .int .u16 h.win, .int .u16 h.sum, .int .u16 h.urg] 27)
  have OK := Lib.hid ok
  have HF := Lib.hid hf
  clear ok hf
  go_enter Try.func20, Try.ntmps20
  go_wp2_with (first
    | (go_at_call 38; refine (encode_no h OK.out _ HF.out).mono ?_; rintro e w2 ⟨rfl, B2⟩))
  go_ret2
  exact ⟨rfl, new_then L0 B2⟩
theorem join_yes (h : Hd) (ok : HdOk h) (A : Option Addr) (n c m : Nat) (ops : List Int) (d : ByteArray) (w : World) (hf : fitF h) (hs : Src .u8 w A n c ops) (hn : n ≤ 1000) (hd : d.size ≤ 1000) (hm : 20 + n + d.size = m) :
    Calls Try.prog 20 #[.agg #[.int .u16 h.src, .int .u16 h.dst, .int .u32 h.seq, .int .u32 h.ack, .int .u8 h.off, .int .u8 h.ace, .int .u8 h.fl, .int .u16 h.win, .int .u16 h.sum, .int .u16 h.urg], .slice A n c, .string d] w (SegTo w m (segB h ops (sb d))) := by
  have L0 := new_alloc (new_refl w) (.cells #[.int .u16 h.src, .int .u16 h.dst, .int .u32 h.seq, .int .u32 h.ack, .int .u8 h.off, .int .u8 h.ace, .int .u8 h.fl, .int .u16 h.win, .int .u16 h.sum, .int .u16 h.urg] 27)
  have OK := Lib.hid ok
  have HF := Lib.hid hf
  have HS := Lib.hid (hs.kept L0)
  have hon : ops.length = n := hs.1.symm
  have q1 : Hid ((hdF h).length + ops.length ≤ 1000000000) := Lib.hid (by rw [hdF_len]; omega)
  have q2 : Hid ((hdF h ++ ops).length + d.size ≤ 1000000000) := Lib.hid (by rw [List.length_append, hdF_len]; omega)
  have HL : Hid ((segB h ops (sb d)).length = m ∧ 0 < m) := Lib.hid (by rw [segB_len, sb_len]; omega)
  clear ok hf hs hn hd hm hon
  go_enter Try.func20, Try.ntmps20
  go_upto_region 2 with (first
    | (go_at_call 38; refine (encode_yes h OK.out _ HF.out).mono ?_; rintro e w2 ⟨g2, c2, rfl, O2, B2⟩))
  have S2 := Lib.hid (HS.out.kept B2)
  have L2 := new_then L0 B2
  replace O2 := O2.mono L0.size
  clear HS B2
  go_wp2_with (first
    | (at_builtin; have h := O3; clear h; refine wp_strB (by rfl) _ _ (by rfl) w.heap.size _ (hdF h ++ ops) d (by rfl) (by rfl) O3 q2.out B3.size ?_; intro v4 w4 O4 G4; have B4 := B3.trans (below_push O3 G4 B3.size))
    | (at_builtin; refine wp_catK elB (by rfl) _ _ (by rfl) w.heap.size _ (hdF h) _ n c ops (by rfl) (by rfl) S2.out O2 q1.out L2.size ?_; intro v3 w3 O3 G3 hat3; have B3 := L2.trans (below_push O2 G3 L2.size)))
  go_ret2
  rw [List.append_assoc] at O4
  obtain ⟨g4, c4, rfl, _, _⟩ := O4.some HL.out.1 HL.out.2
  exact ⟨g4, c4, rfl, O4, B4⟩

theorem ahead_any (x : Ad) (A : Option Addr) (n c : Nat) (w : World) (hn : n ≤ 1000000) :
    Calls Try.prog 22 #[.agg #[.int .u8 x.a, .int .u8 x.b, .int .u8 x.c, .int .u8 x.d], .agg #[.int .u8 x.e, .int .u8 x.f, .int .u8 x.g, .int .u8 x.h], .slice A n c] w (BytesOf w (pseG x n) 12) := by
  have L0 := new_alloc (new_alloc (new_refl w) (.cells #[.int .u8 x.a, .int .u8 x.b, .int .u8 x.c, .int .u8 x.d] 22)) (.cells #[.int .u8 x.e, .int .u8 x.f, .int .u8 x.g, .int .u8 x.h] 22)
  have hq : Hid (-9223372036854775808 ≤ (n : Int) ∧ (n : Int) ≤ 9223372036854775807) := Lib.hid (by omega)
  clear hn
  go_enter Try.func22, Try.ntmps22
  go_wp2_with (first
    | (go_at_call 41; refine (pseudo_any x.a x.b x.c x.d x.e x.f x.g x.h 6 n _ hq.out).mono ?_; rintro e w2 ⟨g2, c2, rfl, O2, B2⟩))
  go_ret
  exact ⟨g2, c2, rfl, O2.mono L0.size, new_then L0 B2⟩

theorem sum_seg (x : Ad) (m k4 k5 g4 g5 : Nat) (zs : List Int) (C : Int) (w : World) (t : TypeId) (g : Nat) (hg : w.heap.size = g) (hC : ckS (pseG x m ++ zs) = C) (P4 : LsK .u8 w g4 (some ⟨g4, 0, none⟩) zs) (hl : zs.length = m) (hb : bytS zs) (P5 : LsK .u8 w g5 (some ⟨g5, 0, none⟩) (pseG x m)) (hx : x.ok) (hm : m ≤ 100000) :
    Calls Try.prog 21 #[.slice (some ⟨g, 0, none⟩) 2 2] (w.alloc (.cells #[.slice (some ⟨g5, 0, none⟩) 12 k5, .slice (some ⟨g4, 0, none⟩) m k4] t)) fun e w' => e = .returned (.int .u16 C) ∧ w.alloc (.cells #[.slice (some ⟨g5, 0, none⟩) 12 k5, .slice (some ⟨g4, 0, none⟩) m k4] t) = w' := by
  subst hC
  exact sumTwo_any ⟨some ⟨g5, 0, none⟩, 12, k5, g5, pseG x m⟩ ⟨some ⟨g4, 0, none⟩, m, k4, g4, zs⟩ w t g hg ⟨P5, pseG_len x m, pseG_byt hx m⟩ ⟨P4, hl, hb⟩ (by show 12 ≤ 100000; decide) hm
theorem ver_seg (x : Ad) (m k4 k5 g4 g5 : Nat) (A : Option Addr) (zs : List Int) (w : World) (t : TypeId) (g : Nat) (hg : w.heap.size = g) (P4 : LsK .u8 w g4 A zs) (hl : zs.length = m) (hb : bytS zs) (P5 : LsK .u8 w g5 (some ⟨g5, 0, none⟩) (pseG x m)) (hx : x.ok) (hm : m ≤ 100000) :
    Calls Try.prog 29 #[.slice (some ⟨g, 0, none⟩) 2 2] (w.alloc (.cells #[.slice (some ⟨g5, 0, none⟩) 12 k5, .slice A m k4] t)) fun e w' => e = .returned (.bool (decide (ckS (pseG x m ++ zs) = 0))) ∧ w.alloc (.cells #[.slice (some ⟨g5, 0, none⟩) 12 k5, .slice A m k4] t) = w' := by
  subst hg
  have e : allS [⟨some ⟨g5, 0, none⟩, 12, k5, g5, pseG x m⟩, ⟨A, m, k4, g4, zs⟩] = pseG x m ++ zs := by simp [allS]
  have h1 : PtAt w ⟨some ⟨g5, 0, none⟩, 12, k5, g5, pseG x m⟩ := ⟨P5, pseG_len x m, pseG_byt hx m⟩
  have h2 : PtAt w ⟨A, m, k4, g4, zs⟩ := ⟨P4, hl, hb⟩
  have := verAll_any w.heap.size [⟨some ⟨g5, 0, none⟩, 12, k5, g5, pseG x m⟩, ⟨A, m, k4, g4, zs⟩] 2 2 _ (parts_new (by simpa using ⟨h1, h2⟩) t (vs := #[.slice (some ⟨g5, 0, none⟩) 12 k5, .slice A m k4]) rfl rfl) rfl (by rw [e, List.length_append, pseG_len]; omega) (by decide)
  rw [e] at this
  exact this

theorem and_twoG : ∀ n : Nat, n < 256 → bits .and .u8 (n : Int) 2 = (n : Int) / 2 % 2 * 2 := by decide +kernel
theorem and_oneG : ∀ n : Nat, n < 256 → bits .and .u8 (n : Int) 1 = (n : Int) % 2 := by decide +kernel
theorem has_two (h : Hd) (hf : 0 ≤ h.fl ∧ h.fl ≤ 255) (w : World) :
    Calls Try.prog 47 #[.agg #[.int .u16 h.src, .int .u16 h.dst, .int .u32 h.seq, .int .u32 h.ack, .int .u8 h.off, .int .u8 h.ace, .int .u8 h.fl, .int .u16 h.win, .int .u16 h.sum, .int .u16 h.urg], .int .u8 2] w fun e w' => e = .returned (.bool (decide (h.fl / 2 % 2 = 1))) ∧ Below w.heap.size w w' := by
  have L0 := new_alloc (new_refl w) (.cells #[.int .u16 h.src, .int .u16 h.dst, .int .u32 h.seq, .int .u32 h.ack, .int .u8 h.off, .int .u8 h.ace, .int .u8 h.fl, .int .u16 h.win, .int .u16 h.sum, .int .u16 h.urg] 27)
  have e := and_twoG h.fl.toNat (by omega)
  rw [show ((h.fl.toNat : Nat) : Int) = h.fl by omega] at e
  have e2 : (h.fl / 2 % 2 * 2 == 2) = decide (h.fl / 2 % 2 = 1) := by
    by_cases hq : h.fl / 2 % 2 = 1
    · simp [hq]
    · have : h.fl / 2 % 2 = 0 := by omega
      simp [this]
  go_enter Try.func47, Try.ntmps47
  go_wp2_with fail
  go_ret
  exact ⟨ret_bool (by simp), L0⟩
theorem has_one (h : Hd) (hf : 0 ≤ h.fl ∧ h.fl ≤ 255) (w : World) :
    Calls Try.prog 47 #[.agg #[.int .u16 h.src, .int .u16 h.dst, .int .u32 h.seq, .int .u32 h.ack, .int .u8 h.off, .int .u8 h.ace, .int .u8 h.fl, .int .u16 h.win, .int .u16 h.sum, .int .u16 h.urg], .int .u8 1] w fun e w' => e = .returned (.bool (decide (h.fl % 2 = 1))) ∧ Below w.heap.size w w' := by
  have L0 := new_alloc (new_refl w) (.cells #[.int .u16 h.src, .int .u16 h.dst, .int .u32 h.seq, .int .u32 h.ack, .int .u8 h.off, .int .u8 h.ace, .int .u8 h.fl, .int .u16 h.win, .int .u16 h.sum, .int .u16 h.urg] 27)
  have e := and_oneG h.fl.toNat (by omega)
  rw [show ((h.fl.toNat : Nat) : Int) = h.fl by omega] at e
  go_enter Try.func47, Try.ntmps47
  go_wp2_with fail
  go_ret
  exact ⟨ret_bool (by by_cases hq : h.fl % 2 = 1 <;> simp [hq]), L0⟩

/-- A segment's cells. -/
abbrev segV (h : Hd) (A : Option Addr) (n c : Nat) (d : ByteArray) : List Value := [.int .u16 h.src, .int .u16 h.dst, .int .u32 h.seq, .int .u32 h.ack, .int .u8 h.off, .int .u8 h.ace, .int .u8 h.fl, .int .u16 h.win, .int .u16 h.sum, .int .u16 h.urg, .slice A n c, .string d]
theorem one_two (h : Hd) (hf : 0 ≤ h.fl ∧ h.fl ≤ 255) (A : Option Addr) (n c : Nat) (d : ByteArray) (w : World) :
    Calls Try.prog 27 #[.agg #[.int .u16 h.src, .int .u16 h.dst, .int .u32 h.seq, .int .u32 h.ack, .int .u8 h.off, .int .u8 h.ace, .int .u8 h.fl, .int .u16 h.win, .int .u16 h.sum, .int .u16 h.urg, .slice A n c, .string d], .int .u8 2] w fun e w' => e = .returned (.int .i64 (h.fl / 2 % 2)) ∧ Below w.heap.size w w' := by
  have L0 := new_alloc (new_refl w) (.cells #[.int .u16 h.src, .int .u16 h.dst, .int .u32 h.seq, .int .u32 h.ack, .int .u8 h.off, .int .u8 h.ace, .int .u8 h.fl, .int .u16 h.win, .int .u16 h.sum, .int .u16 h.urg, .slice A n c, .string d] 30)
  have HF := Lib.hid hf
  clear hf
  by_cases hq : h.fl / 2 % 2 = 1
  · have hd : decide (h.fl / 2 % 2 = 1) = true := by simp [hq]
    go_enter Try.func27, Try.ntmps27
    go_wp2_with (first
      | (go_at_call 47; refine (has_two h HF.out _).mono ?_; rw [hd]; rintro e w2 ⟨rfl, B2⟩))
    go_ret
    exact ⟨ret_int hq.symm, new_then L0 B2⟩
  · have hd : decide (h.fl / 2 % 2 = 1) = false := by simp [hq]
    have h0 : h.fl / 2 % 2 = 0 := by omega
    go_enter Try.func27, Try.ntmps27
    go_wp2_with (first
      | (go_at_call 47; refine (has_two h HF.out _).mono ?_; rw [hd]; rintro e w2 ⟨rfl, B2⟩))
    go_ret
    exact ⟨ret_int h0.symm, new_then L0 B2⟩
theorem one_one (h : Hd) (hf : 0 ≤ h.fl ∧ h.fl ≤ 255) (A : Option Addr) (n c : Nat) (d : ByteArray) (w : World) :
    Calls Try.prog 27 #[.agg #[.int .u16 h.src, .int .u16 h.dst, .int .u32 h.seq, .int .u32 h.ack, .int .u8 h.off, .int .u8 h.ace, .int .u8 h.fl, .int .u16 h.win, .int .u16 h.sum, .int .u16 h.urg, .slice A n c, .string d], .int .u8 1] w fun e w' => e = .returned (.int .i64 (h.fl % 2)) ∧ Below w.heap.size w w' := by
  have L0 := new_alloc (new_refl w) (.cells #[.int .u16 h.src, .int .u16 h.dst, .int .u32 h.seq, .int .u32 h.ack, .int .u8 h.off, .int .u8 h.ace, .int .u8 h.fl, .int .u16 h.win, .int .u16 h.sum, .int .u16 h.urg, .slice A n c, .string d] 30)
  have HF := Lib.hid hf
  clear hf
  by_cases hq : h.fl % 2 = 1
  · have hd : decide (h.fl % 2 = 1) = true := by simp [hq]
    go_enter Try.func27, Try.ntmps27
    go_wp2_with (first
      | (go_at_call 47; refine (has_one h HF.out _).mono ?_; rw [hd]; rintro e w2 ⟨rfl, B2⟩))
    go_ret
    exact ⟨ret_int hq.symm, new_then L0 B2⟩
  · have hd : decide (h.fl % 2 = 1) = false := by simp [hq]
    have h0 : h.fl % 2 = 0 := by omega
    go_enter Try.func27, Try.ntmps27
    go_wp2_with (first
      | (go_at_call 47; refine (has_one h HF.out _).mono ?_; rw [hd]; rintro e w2 ⟨rfl, B2⟩))
    go_ret
    exact ⟨ret_int h0.symm, new_then L0 B2⟩
end Go.Proofs.Ytnkcnfkonifmhaa
