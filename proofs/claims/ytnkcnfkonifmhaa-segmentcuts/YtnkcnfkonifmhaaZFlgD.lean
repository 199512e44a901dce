/- Package flags: Decode. -/
import Derived.Test.YtnkcnfkonifmhaaZFlgC
import Derived.Test.YtnkcnfkonifmhaaZLsA
namespace Go.Proofs.Ytnkcnfkonifmhaa
open Go.RowKit
set_option linter.unusedVariables false

/-- The number of two bytes, of four. -/
def n2F (zs : List Int) (i : Nat) : Int := bF zs i * 256 + bF zs (i + 1)
def n4F (zs : List Int) (i : Nat) : Int := n2F zs i * 65536 + n2F zs (i + 2)
/-- The header of bytes. -/
def decF (zs : List Int) : Hd := ⟨n2F zs 0, n2F zs 2, n4F zs 4, n4F zs 8, bF zs 12 / 16, bF zs 12 % 2 * 4 + bF zs 13 / 64, bF zs 13 % 64, n2F zs 14, n2F zs 16, n2F zs 18⟩
/-- Is it one? -/
def isF (zs : List Int) : Prop := 80 ≤ bF zs 12 ∧ bF zs 12 % 16 ≤ 1
def zeroH : Hd := ⟨0, 0, 0, 0, 0, 0, 0, 0, 0, 0⟩
theorem n2_bd {zs : List Int} (h : bytS zs) {i L : Nat} (hL : zs.length = L) (hi : i + 1 < L) : 0 ≤ n2F zs i ∧ n2F zs i ≤ 65535 := by
  have h1 := bF_bd h hL (i := i) (by omega)
  have h2 := bF_bd h hL hi
  unfold n2F; omega
theorem get2_any (g off L c p : Nat) (zs : List Int) (w : World) (h : LsK .u8 w g (some ⟨g, off, none⟩) zs) (hL : zs.length = L) (hb : bytS zs) (hp : p + 1 < L) (hL2 : L ≤ 100000) :
    Calls Try.prog 48 #[.slice (some ⟨g, off, none⟩) L c, .int .i64 (p : Int)] w (Reads w (.int .u16 (n2F zs p))) := by
  have c0 := h.at hL (i := p) (by omega)
  have c1 := h.at hL hp
  have b0 := bF_bd hb hL (i := p) (by omega)
  have b1 := bF_bd hb hL hp
  have en : Hid (bF zs p * 256 + bF zs (p + 1) = n2F zs p) := Lib.hid rfl
  clear h hb hL
  generalize bF zs p = x at *
  generalize bF zs (p + 1) = y at *
  have e1 := or256F b0 b1
  obtain ⟨x0, x1⟩ := b0
  obtain ⟨y0, y1⟩ := b1
  have p0 : (0 : Int) ≤ (p : Int) := by omega
  have p1 : (p : Int) < (L : Int) := by omega
  have p2 : (p : Int) + 1 < (L : Int) := by omega
  have s1 : IntKind.u16.wrap x = x := by rw [IntKind.wrap_u16]; omega
  have s2 : IntKind.u16.wrap y = y := by rw [IntKind.wrap_u16]; omega
  have s3 : IntKind.u16.wrap (x * 256) = x * 256 := by rw [IntKind.wrap_u16]; omega
  go_enter Try.func48, Try.ntmps48
  go_wp2_with fail
  go_quiet (fail)
  go_wp2_with fail
  go_ret
  exact ⟨ret_int en.out, _, rfl⟩

theorem get4_any (g off L c p : Nat) (zs : List Int) (w : World) (h : LsK .u8 w g (some ⟨g, off, none⟩) zs) (hL : zs.length = L) (hb : bytS zs) (hp : p + 3 < L) (hL2 : L ≤ 100000) :
    Calls Try.prog 49 #[.slice (some ⟨g, off, none⟩) L c, .int .i64 (p : Int)] w (Reads w (.int .u32 (n4F zs p))) := by
  obtain ⟨q, hq⟩ : ∃ q, p + 2 = q := ⟨_, rfl⟩
  have b0 := n2_bd hb hL (i := p) (by omega)
  have b1 := n2_bd hb hL (i := q) (by omega)
  have en : Hid (n2F zs p * 65536 + n2F zs q = n4F zs p) := Lib.hid (by rw [← hq]; rfl)
  have C1 := Lib.hid (fun w h => get2_any g off L c p zs w h hL hb (by omega) hL2)
  have C2 := Lib.hid (fun w h => get2_any g off L c q zs w h hL hb (by omega) hL2)
  have HV := Lib.hid h
  clear h hb hL
  generalize n2F zs p = x at *
  generalize n2F zs q = y at *
  have e1 := or65536F b0 b1
  obtain ⟨x0, x1⟩ := b0
  obtain ⟨y0, y1⟩ := b1
  have p0 : (0 : Int) ≤ (p : Int) := by omega
  have p1 : (p : Int) < (L : Int) := by omega
  have p2 : (p : Int) + 2 = (q : Int) := by omega
  have p3 : IntKind.i64.wrap (q : Int) = (q : Int) := by rw [IntKind.wrap_i64]; omega
  clear hq
  have s1 : IntKind.u32.wrap x = x := by rw [IntKind.wrap_u32]; omega
  have s2 : IntKind.u32.wrap y = y := by rw [IntKind.wrap_u32]; omega
  have s3 : IntKind.u32.wrap (x * 65536) = x * 65536 := by rw [IntKind.wrap_u32]; omega
  go_enter Try.func49, Try.ntmps49
  go_wp2_with (first
    | (go_at_call 48; have h := he1; clear h; refine (C2.out _ (HV.out.draw _)).mono ?_; rintro e w2 ⟨rfl, n2, rfl⟩)
    | (go_at_call 48; refine (C1.out w HV.out).mono ?_; rintro e w1 ⟨rfl, n1, he1⟩; subst he1; have he1 := x0))
  go_ret
  exact ⟨ret_int en.out, _, rfl⟩

/-- What Decode tells. -/
def DecTo (w : World) (h : Hd) (q : Int) (e : Ending) (w' : World) : Prop := e = .returned (.tuple #[.agg #[.int .u16 h.src, .int .u16 h.dst, .int .u32 h.seq, .int .u32 h.ack, .int .u8 h.off, .int .u8 h.ace, .int .u8 h.fl, .int .u16 h.win, .int .u16 h.sum, .int .u16 h.urg], .int .i64 q]) ∧ Below w.heap.size w w'
set_option maxRecDepth 100000 in
theorem decode_short (A : Option Addr) (L c : Nat) (w : World) (hL : L < 20) :
    Calls Try.prog 28 #[.slice A L c] w (DecTo w zeroH 3) := by
  have l1 : (L : Int) < 20 := by omega
  clear hL
  go_enter Try.func28, Try.ntmps28
  go_wp2_with fail
  exact bodyPost_ret (v := .tuple #[.agg #[.int .u16 0, .int .u16 0, .int .u32 0, .int .u32 0, .int .u8 0, .int .u8 0, .int .u8 0, .int .u16 0, .int .u16 0, .int .u16 0], .int .i64 3]) (by simp [results, Try.results28, go_sem]) rfl ⟨rfl, new_alloc (new_refl w) _⟩
set_option maxRecDepth 100000 in
theorem decode_not (g off L c : Nat) (zs : List Int) (w : World) (h : LsK .u8 w g (some ⟨g, off, none⟩) zs) (hL : zs.length = L) (hb : bytS zs) (hL1 : 20 ≤ L) (hL2 : L ≤ 100000) (hn : ¬ isF zs) :
    Calls Try.prog 28 #[.slice (some ⟨g, off, none⟩) L c] w (DecTo w zeroH 5) := by
  have l0 : ¬ (L : Int) < 20 := by omega
  have l1 : (12 : Int) < (L : Int) := by omega
  have c0 := (h.kept (new_alloc (new_refl w) (.cells #[.int .u16 0, .int .u16 0, .int .u32 0, .int .u32 0, .int .u8 0, .int .u8 0, .int .u8 0, .int .u16 0, .int .u16 0, .int .u16 0] 27))).at hL (i := 12) (by omega)
  have b0 := bF_bd hb hL (i := 12) (by omega)
  unfold isF at hn
  clear h hb hL
  generalize bF zs 12 = x at *
  have e1 := and14F b0
  obtain ⟨x0, x1⟩ := b0
  by_cases h5 : x / 16 < 5
  · clear hn
    go_enter Try.func28, Try.ntmps28
    go_wp2_with fail
    exact bodyPost_ret (v := .tuple #[.agg #[.int .u16 0, .int .u16 0, .int .u32 0, .int .u32 0, .int .u8 0, .int .u8 0, .int .u8 0, .int .u16 0, .int .u16 0, .int .u16 0], .int .i64 5]) (by simp [results, Try.results28, go_sem]) rfl ⟨rfl, new_alloc (new_refl w) _⟩
  · have e2 : (x % 16 - x % 2 != 0) = true := by simp; omega
    clear hn
    go_enter Try.func28, Try.ntmps28
    go_wp2_with fail
    exact bodyPost_ret (v := .tuple #[.agg #[.int .u16 0, .int .u16 0, .int .u32 0, .int .u32 0, .int .u8 0, .int .u8 0, .int .u8 0, .int .u16 0, .int .u16 0, .int .u16 0], .int .i64 5]) (by simp [results, Try.results28, go_sem]) rfl ⟨rfl, new_alloc (new_refl w) _⟩
set_option maxRecDepth 100000 in
set_option maxHeartbeats 2000000 in
theorem decode_yes (g off L c : Nat) (zs : List Int) (w : World) (h : LsK .u8 w g (some ⟨g, off, none⟩) zs) (hL : zs.length = L) (hb : bytS zs) (hL1 : 20 ≤ L) (hL2 : L ≤ 100000) (hn : isF zs) :
    Calls Try.prog 28 #[.slice (some ⟨g, off, none⟩) L c] w (DecTo w (decF zs) 0) := by
  have l0 : ¬ (L : Int) < 20 := by omega
  have l1 : (12 : Int) < (L : Int) := by omega
  have l2 : (13 : Int) < (L : Int) := by omega
  have V := h.kept (new_alloc (new_refl w) (.cells #[.int .u16 0, .int .u16 0, .int .u32 0, .int .u32 0, .int .u8 0, .int .u8 0, .int .u8 0, .int .u16 0, .int .u16 0, .int .u16 0] 27))
  have c0 := V.at hL (i := 12) (by omega)
  have c1 := V.at hL (i := 13) (by omega)
  have b0 := bF_bd hb hL (i := 12) (by omega)
  have b1 := bF_bd hb hL (i := 13) (by omega)
  have hg : g < w.heap.size := World.block_lt_of_cell? w _ (h.at hL (i := 12) (by omega))
  have hg2 : w.heap.size ≠ g := by omega
  have C0 : Hid (∀ w, LsK .u8 w g (some ⟨g, off, none⟩) zs → Calls Try.prog 48 #[.slice (some ⟨g, off, none⟩) L c, .int .i64 0] w (Reads w (.int .u16 (n2F zs 0)))) := Lib.hid (fun w h => get2_any g off L c 0 zs w h hL hb (by omega) hL2)
  have C2 : Hid (∀ w, LsK .u8 w g (some ⟨g, off, none⟩) zs → Calls Try.prog 48 #[.slice (some ⟨g, off, none⟩) L c, .int .i64 2] w (Reads w (.int .u16 (n2F zs 2)))) := Lib.hid (fun w h => get2_any g off L c 2 zs w h hL hb (by omega) hL2)
  have C4 : Hid (∀ w, LsK .u8 w g (some ⟨g, off, none⟩) zs → Calls Try.prog 49 #[.slice (some ⟨g, off, none⟩) L c, .int .i64 4] w (Reads w (.int .u32 (n4F zs 4)))) := Lib.hid (fun w h => get4_any g off L c 4 zs w h hL hb (by omega) hL2)
  have C8 : Hid (∀ w, LsK .u8 w g (some ⟨g, off, none⟩) zs → Calls Try.prog 49 #[.slice (some ⟨g, off, none⟩) L c, .int .i64 8] w (Reads w (.int .u32 (n4F zs 8)))) := Lib.hid (fun w h => get4_any g off L c 8 zs w h hL hb (by omega) hL2)
  have C14 : Hid (∀ w, LsK .u8 w g (some ⟨g, off, none⟩) zs → Calls Try.prog 48 #[.slice (some ⟨g, off, none⟩) L c, .int .i64 14] w (Reads w (.int .u16 (n2F zs 14)))) := Lib.hid (fun w h => get2_any g off L c 14 zs w h hL hb (by omega) hL2)
  have C16 : Hid (∀ w, LsK .u8 w g (some ⟨g, off, none⟩) zs → Calls Try.prog 48 #[.slice (some ⟨g, off, none⟩) L c, .int .i64 16] w (Reads w (.int .u16 (n2F zs 16)))) := Lib.hid (fun w h => get2_any g off L c 16 zs w h hL hb (by omega) hL2)
  have C18 : Hid (∀ w, LsK .u8 w g (some ⟨g, off, none⟩) zs → Calls Try.prog 48 #[.slice (some ⟨g, off, none⟩) L c, .int .i64 18] w (Reads w (.int .u16 (n2F zs 18)))) := Lib.hid (fun w h => get2_any g off L c 18 zs w h hL hb (by omega) hL2)
  have HV := Lib.hid V
  unfold isF at hn
  have en : Hid (decF zs = ⟨n2F zs 0, n2F zs 2, n4F zs 4, n4F zs 8, bF zs 12 / 16, bF zs 12 % 2 * 4 + bF zs 13 / 64, bF zs 13 % 64, n2F zs 14, n2F zs 16, n2F zs 18⟩) := Lib.hid rfl
  clear h hb hL V
  generalize bF zs 12 = x at *
  generalize bF zs 13 = y at *
  have e1 := and14F b0
  have e2 := and1F b0
  have e3 := or4F (x := x % 2) (y := y / 64) (by omega) (by omega)
  have e4 := and63F b1
  have e5 : IntKind.u8.wrap (x % 2 * 4) = x % 2 * 4 := by rw [IntKind.wrap_u8]; omega
  obtain ⟨x0, x1⟩ := b0
  obtain ⟨y0, y1⟩ := b1
  have h5 : ¬ x / 16 < 5 := by omega
  have e6 : x % 16 - x % 2 = 0 := by omega
  clear hn
  go_enter Try.func28, Try.ntmps28
  go_upto_region 6 with (fail)
  go_region_held3 (fun w' => w'.cell? ⟨g, off + 12, none⟩ = some (.int .u8 x) ∧ w'.cell? ⟨g, off + 13, none⟩ = some (.int .u8 y))
    (go_keep)
    (first
      | (go_at_call 48; have h := m5; clear h; refine (C18.out _ (HV.out.draw _)).mono ?_; rintro e w6 ⟨rfl, n6, he6⟩; subst he6; have m6 := x0)
      | (go_at_call 48; have h := m4; clear h; refine (C16.out _ (HV.out.draw _)).mono ?_; rintro e w5 ⟨rfl, n5, he5⟩; subst he5; have m5 := x0)
      | (go_at_call 48; have h := m3; clear h; refine (C14.out _ (HV.out.draw _)).mono ?_; rintro e w4 ⟨rfl, n4, he4⟩; subst he4; have m4 := x0)
      | (go_at_call 49; have h := m2; clear h; refine (C8.out _ (HV.out.draw _)).mono ?_; rintro e w3 ⟨rfl, n3, he3⟩; subst he3; have m3 := x0)
      | (go_at_call 49; have h := m1; clear h; refine (C4.out _ (HV.out.draw _)).mono ?_; rintro e w2 ⟨rfl, n2, he2⟩; subst he2; have m2 := x0)
      | (go_at_call 48; have h := m0; clear h; refine (C2.out _ (HV.out.draw _)).mono ?_; rintro e w1 ⟨rfl, n1, he1⟩; subst he1; have m1 := x0)
      | (go_at_call 48; refine (C0.out _ (HV.out.draw _)).mono ?_; rintro e w0 ⟨rfl, n0, he0⟩; subst he0; have m0 := x0))
  all_goals
    clear C0 C2 C4 C8 C14 C16 C18 HV c0 c1 e1 e2 e3 e4 e5 hg hg2 l0 l1 l2 hL1 hL2
    go_wp2_with fail
    exact bodyPost_ret (v := .tuple #[.agg #[.int .u16 (n2F zs 0), .int .u16 (n2F zs 2), .int .u32 (n4F zs 4), .int .u32 (n4F zs 8), .int .u8 (x / 16), .int .u8 (x % 2 * 4 + y / 64), .int .u8 (y % 64), .int .u16 (n2F zs 14), .int .u16 (n2F zs 16), .int .u16 (n2F zs 18)], .int .i64 0]) (by simp [results, Try.results28, go_sem]) rfl ⟨by rw [en.out], new_set (new_set (new_set (new_set (new_set (new_set (new_set (new_set (new_set (new_set (new_draw (new_alloc (new_refl w) _) _) (Nat.le_refl _) _) (Nat.le_refl _) _) (Nat.le_refl _) _) (Nat.le_refl _) _) (Nat.le_refl _) _) (Nat.le_refl _) _) (Nat.le_refl _) _) (Nat.le_refl _) _) (Nat.le_refl _) _) (Nat.le_refl _) _⟩
end Go.Proofs.Ytnkcnfkonifmhaa
