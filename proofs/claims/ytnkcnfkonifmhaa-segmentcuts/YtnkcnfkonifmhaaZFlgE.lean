/- The document's Decode of layer 11. -/
import Derived.Test.YtnkcnfkonifmhaaZFlgD
namespace Go.Proofs.Ytnkcnfkonifmhaa
open Go.RowKit
set_option linter.unusedVariables false

def NumI (w : World) (xs : List Int) (L gh : Nat) (vn vi : Value) (wr : World) : Prop := ∃ k : Nat, vi = .int .i64 (k : Int) ∧ L - k = gh ∧ k ≤ L ∧ vn = .int .u32 (numF (xs.take k)) ∧ w = wr
theorem refNum11_any (g off L c : Nat) (xs : List Int) (w : World) (h : LsK .u8 w g (some ⟨g, off, none⟩) xs) (hL : xs.length = L) (hb : bytS xs) (hL4 : L ≤ 4) :
    Calls Try.prog 55 #[.slice (some ⟨g, off, none⟩) L c] w fun e w' => e = .returned (.int .u32 (numF xs)) ∧ w = w' := by
  have HV := Lib.hid h
  have HL := Lib.hid hL
  have HB := Lib.hid hb
  clear h hL hb
  go_enter Try.func55, Try.ntmps55
  go_wp2_with fail
  go_loopg [3, 4] L (fun gh vn vi wr => NumI w xs L gh vn vi wr)
  case atStart => exact ⟨0, rfl, rfl, by omega, by simp [numF], rfl⟩
  case round =>
    obtain ⟨k, rfl, rfl, hk, rfl, rfl⟩ := hrel
    by_cases hlt : k < L
    · have k0 : (0 : Int) ≤ (k : Int) := by omega
      have k1 : (k : Int) < (L : Int) := by omega
      have c0 := HV.out.at HL.out hlt
      have b0 := bF_bd HB.out HL.out hlt
      have b1 := numF_bd HB.out k (by omega) (by have := HL.out; omega)
      have en : Hid (numF (xs.take k) * 256 + bF xs k = numF (xs.take (k + 1))) := Lib.hid (num_take (by have := HL.out; omega)).symm
      generalize bF xs k = x at *
      generalize numF (xs.take k) = y at *
      obtain ⟨x0, x1⟩ := b0
      obtain ⟨y0, y1⟩ := b1
      have e1 : IntKind.u32.wrap (y * 256) = y * 256 := by rw [IntKind.wrap_u32]; omega
      have e2 : IntKind.u32.wrap x = x := by rw [IntKind.wrap_u32]; omega
      have e3 : IntKind.u32.wrap (y * 256 + x) = y * 256 + x := by rw [IntKind.wrap_u32]; omega
      go_wp2_with fail
      go_roundg (L - (k + 1))
      case measure => omega
      case rel => exact ⟨k + 1, by go_num, rfl, by omega, by rw [en.out], rfl⟩
    · obtain rfl : k = L := by omega
      have e1 : xs.take k = xs := List.take_of_length_le (by have := HL.out; omega)
      rw [e1]
      clear e1
      go_wp2_with fail
      go_ret
      exact ⟨rfl, rfl⟩
theorem num_two {zs : List Int} {lo : Nat} (h : lo + 2 ≤ zs.length) : numF ((zs.drop lo).take 2) = n2F zs lo := by
  have hl := part_len h
  have e0 := part_at (zs := zs) (lo := lo) (n := 2) (i := 0) (by decide)
  have e1 := part_at (zs := zs) (lo := lo) (n := 2) (i := 1) (by decide)
  match hq : (zs.drop lo).take 2, hl with
  | [a, b], _ =>
    rw [hq] at e0 e1
    simp at e0 e1
    simp [numF, n2F, e0, e1]
theorem num_four {zs : List Int} {lo : Nat} (h : lo + 4 ≤ zs.length) : numF ((zs.drop lo).take 4) = n4F zs lo := by
  have hl := part_len h
  have e0 := part_at (zs := zs) (lo := lo) (n := 4) (i := 0) (by decide)
  have e1 := part_at (zs := zs) (lo := lo) (n := 4) (i := 1) (by decide)
  have e2 := part_at (zs := zs) (lo := lo) (n := 4) (i := 2) (by decide)
  have e3 := part_at (zs := zs) (lo := lo) (n := 4) (i := 3) (by decide)
  match hq : (zs.drop lo).take 4, hl with
  | [a, b, c, d], _ =>
    rw [hq] at e0 e1 e2 e3
    simp at e0 e1 e2 e3
    simp [numF, n4F, n2F, e0, e1, e2, e3]
    rw [show lo + 2 + 1 = lo + 3 from rfl]
    omega
theorem refNum2_any (g off L c lo : Nat) (zs : List Int) (w : World) (h : LsK .u8 w g (some ⟨g, off, none⟩) zs) (hL : zs.length = L) (hb : bytS zs) (hlo : lo + 2 ≤ L) :
    Calls Try.prog 55 #[.slice (some ⟨g, off + lo, none⟩) 2 (c - lo)] w fun e w' => e = .returned (.int .u32 (n2F zs lo)) ∧ w = w' := by
  rw [← num_two (by omega)]
  exact refNum11_any g (off + lo) 2 (c - lo) _ w (part_ls h lo 2) (part_len (by omega)) (byt_take (byt_drop hb lo) 2) (by decide)
theorem refNum4_any (g off L c lo : Nat) (zs : List Int) (w : World) (h : LsK .u8 w g (some ⟨g, off, none⟩) zs) (hL : zs.length = L) (hb : bytS zs) (hlo : lo + 4 ≤ L) :
    Calls Try.prog 55 #[.slice (some ⟨g, off + lo, none⟩) 4 (c - lo)] w fun e w' => e = .returned (.int .u32 (n4F zs lo)) ∧ w = w' := by
  rw [← num_four (by omega)]
  exact refNum11_any g (off + lo) 4 (c - lo) _ w (part_ls h lo 4) (part_len (by omega)) (byt_take (byt_drop hb lo) 4) (by decide)
set_option maxRecDepth 100000 in
theorem refDecode_short (A : Option Addr) (L c : Nat) (w : World) (hL : L < 20) :
    Calls Try.prog 32 #[.slice A L c] w (DecTo w zeroH 3) := by
  have l1 : (L : Int) < 20 := by omega
  clear hL
  go_enter Try.func32, Try.ntmps32
  go_wp2_with fail
  exact bodyPost_ret (v := .tuple #[.agg #[.int .u16 0, .int .u16 0, .int .u32 0, .int .u32 0, .int .u8 0, .int .u8 0, .int .u8 0, .int .u16 0, .int .u16 0, .int .u16 0], .int .i64 3]) (by simp [results, Try.results32, go_sem]) rfl ⟨rfl, new_alloc (new_refl w) _⟩
set_option maxRecDepth 100000 in
theorem refDecode_not (g off L c : Nat) (zs : List Int) (w : World) (h : LsK .u8 w g (some ⟨g, off, none⟩) zs) (hL : zs.length = L) (hb : bytS zs) (hL1 : 20 ≤ L) (hL2 : L ≤ 100000) (hn : ¬ isF zs) :
    Calls Try.prog 32 #[.slice (some ⟨g, off, none⟩) L c] w (DecTo w zeroH 5) := by
  have l0 : ¬ (L : Int) < 20 := by omega
  have l1 : (12 : Int) < (L : Int) := by omega
  have c0 := (h.kept (new_alloc (new_refl w) (.cells #[.int .u16 0, .int .u16 0, .int .u32 0, .int .u32 0, .int .u8 0, .int .u8 0, .int .u8 0, .int .u16 0, .int .u16 0, .int .u16 0] 27))).at hL (i := 12) (by omega)
  have b0 := bF_bd hb hL (i := 12) (by omega)
  unfold isF at hn
  clear h hb hL
  generalize bF zs 12 = x at *
  obtain ⟨x0, x1⟩ := b0
  have e1 : x.tdiv 16 = x / 16 := Int.tdiv_eq_ediv_of_nonneg x0
  have e2 : IntKind.u8.wrap (x / 16) = x / 16 := by rw [IntKind.wrap_u8]; omega
  by_cases h5 : x / 16 < 5
  · clear hn
    go_enter Try.func32, Try.ntmps32
    go_wp2_with fail
    exact bodyPost_ret (v := .tuple #[.agg #[.int .u16 0, .int .u16 0, .int .u32 0, .int .u32 0, .int .u8 0, .int .u8 0, .int .u8 0, .int .u16 0, .int .u16 0, .int .u16 0], .int .i64 5]) (by simp [results, Try.results32, go_sem]) rfl ⟨rfl, new_alloc (new_refl w) _⟩
  · have e3 : 1 < x % 16 := by omega
    clear hn
    go_enter Try.func32, Try.ntmps32
    go_wp2_with fail
    exact bodyPost_ret (v := .tuple #[.agg #[.int .u16 0, .int .u16 0, .int .u32 0, .int .u32 0, .int .u8 0, .int .u8 0, .int .u8 0, .int .u16 0, .int .u16 0, .int .u16 0], .int .i64 5]) (by simp [results, Try.results32, go_sem]) rfl ⟨rfl, new_alloc (new_refl w) _⟩
set_option maxRecDepth 100000 in
set_option maxHeartbeats 8000000 in
theorem refDecode_yes (g off L c : Nat) (zs : List Int) (w : World) (h : LsK .u8 w g (some ⟨g, off, none⟩) zs) (hL : zs.length = L) (hb : bytS zs) (hL1 : 20 ≤ L) (hL2 : L ≤ 100000) (hc : L ≤ c) (hn : isF zs) :
    Calls Try.prog 32 #[.slice (some ⟨g, off, none⟩) L c] w (DecTo w (decF zs) 0) := by
  have l0 : ¬ (L : Int) < 20 := by omega
  have l1 : (12 : Int) < (L : Int) := by omega
  have l2 : (13 : Int) < (L : Int) := by omega
  have V := h.kept (new_alloc (new_refl w) (.cells #[.int .u16 0, .int .u16 0, .int .u32 0, .int .u32 0, .int .u8 0, .int .u8 0, .int .u8 0, .int .u16 0, .int .u16 0, .int .u16 0] 27))
  have c0 := V.at hL (i := 12) (by omega)
  have c1 := V.at hL (i := 13) (by omega)
  have b0 := bF_bd hb hL (i := 12) (by omega)
  have b1 := bF_bd hb hL (i := 13) (by omega)
  have hg : g < w.heap.size := World.block_lt_of_cell? w _ (h.at hL (i := 12) (by omega))
  have hg2 : w.heap.size ≠ g := by omega
  have C0 : Hid (∀ w, LsK .u8 w g (some ⟨g, off, none⟩) zs → Calls Try.prog 55 #[.slice (some ⟨g, off, none⟩) 2 (c)] w fun e w' => e = .returned (.int .u32 (n2F zs 0)) ∧ w = w') := Lib.hid (fun w h => refNum2_any g off L c 0 zs w h hL hb (by omega))
  have C2 : Hid (∀ w, LsK .u8 w g (some ⟨g, off, none⟩) zs → Calls Try.prog 55 #[.slice (some ⟨g, off + 2, none⟩) 2 (c - 2)] w fun e w' => e = .returned (.int .u32 (n2F zs 2)) ∧ w = w') := Lib.hid (fun w h => refNum2_any g off L c 2 zs w h hL hb (by omega))
  have C4 : Hid (∀ w, LsK .u8 w g (some ⟨g, off, none⟩) zs → Calls Try.prog 55 #[.slice (some ⟨g, off + 4, none⟩) 4 (c - 4)] w fun e w' => e = .returned (.int .u32 (n4F zs 4)) ∧ w = w') := Lib.hid (fun w h => refNum4_any g off L c 4 zs w h hL hb (by omega))
  have C8 : Hid (∀ w, LsK .u8 w g (some ⟨g, off, none⟩) zs → Calls Try.prog 55 #[.slice (some ⟨g, off + 8, none⟩) 4 (c - 8)] w fun e w' => e = .returned (.int .u32 (n4F zs 8)) ∧ w = w') := Lib.hid (fun w h => refNum4_any g off L c 8 zs w h hL hb (by omega))
  have C14 : Hid (∀ w, LsK .u8 w g (some ⟨g, off, none⟩) zs → Calls Try.prog 55 #[.slice (some ⟨g, off + 14, none⟩) 2 (c - 14)] w fun e w' => e = .returned (.int .u32 (n2F zs 14)) ∧ w = w') := Lib.hid (fun w h => refNum2_any g off L c 14 zs w h hL hb (by omega))
  have C16 : Hid (∀ w, LsK .u8 w g (some ⟨g, off, none⟩) zs → Calls Try.prog 55 #[.slice (some ⟨g, off + 16, none⟩) 2 (c - 16)] w fun e w' => e = .returned (.int .u32 (n2F zs 16)) ∧ w = w') := Lib.hid (fun w h => refNum2_any g off L c 16 zs w h hL hb (by omega))
  have C18 : Hid (∀ w, LsK .u8 w g (some ⟨g, off, none⟩) zs → Calls Try.prog 55 #[.slice (some ⟨g, off + 18, none⟩) 2 (c - 18)] w fun e w' => e = .returned (.int .u32 (n2F zs 18)) ∧ w = w') := Lib.hid (fun w h => refNum2_any g off L c 18 zs w h hL hb (by omega))
  have HV := Lib.hid V
  have q0 : IntKind.u16.wrap (n2F zs 0) = n2F zs 0 := by have := n2_bd hb hL (i := 0) (by omega); rw [IntKind.wrap_u16]; omega
  have q2 : IntKind.u16.wrap (n2F zs 2) = n2F zs 2 := by have := n2_bd hb hL (i := 2) (by omega); rw [IntKind.wrap_u16]; omega
  have q14 : IntKind.u16.wrap (n2F zs 14) = n2F zs 14 := by have := n2_bd hb hL (i := 14) (by omega); rw [IntKind.wrap_u16]; omega
  have q16 : IntKind.u16.wrap (n2F zs 16) = n2F zs 16 := by have := n2_bd hb hL (i := 16) (by omega); rw [IntKind.wrap_u16]; omega
  have q18 : IntKind.u16.wrap (n2F zs 18) = n2F zs 18 := by have := n2_bd hb hL (i := 18) (by omega); rw [IntKind.wrap_u16]; omega
  unfold isF at hn
  have en : Hid (decF zs = ⟨n2F zs 0, n2F zs 2, n4F zs 4, n4F zs 8, bF zs 12 / 16, bF zs 12 % 2 * 4 + bF zs 13 / 64, bF zs 13 % 64, n2F zs 14, n2F zs 16, n2F zs 18⟩) := Lib.hid rfl
  clear h hb hL V
  generalize bF zs 12 = x at *
  generalize bF zs 13 = y at *
  obtain ⟨x0, x1⟩ := b0
  obtain ⟨y0, y1⟩ := b1
  have e1 : x.tdiv 16 = x / 16 := Int.tdiv_eq_ediv_of_nonneg x0
  have e2 : IntKind.u8.wrap (x / 16) = x / 16 := by rw [IntKind.wrap_u8]; omega
  have e4 : y.tdiv 64 = y / 64 := Int.tdiv_eq_ediv_of_nonneg y0
  have e5 : IntKind.u8.wrap (y / 64) = y / 64 := by rw [IntKind.wrap_u8]; omega
  have e6 : IntKind.u8.wrap (x % 2 * 4) = x % 2 * 4 := by rw [IntKind.wrap_u8]; omega
  have e7 : IntKind.u8.wrap (x % 2 * 4 + y / 64) = x % 2 * 4 + y / 64 := by rw [IntKind.wrap_u8]; omega
  have e8 : y.tmod 64 = y % 64 := Int.tmod_eq_emod_of_nonneg y0
  have h5 : ¬ x / 16 < 5 := by omega
  have h6 : ¬ 1 < x % 16 := by omega
  have s0 : (20 : Int) ≤ (c : Int) := by omega
  have s1 : (2 : Int) ≤ (c : Int) := by omega
  have s2 : (4 : Int) ≤ (c : Int) := by omega
  have s3 : (8 : Int) ≤ (c : Int) := by omega
  have s4 : (12 : Int) ≤ (c : Int) := by omega
  have s5 : (16 : Int) ≤ (c : Int) := by omega
  have s6 : (18 : Int) ≤ (c : Int) := by omega
  have t2 : ¬ c = 2 := by omega
  have t4 : ¬ c = 4 := by omega
  have t8 : ¬ c = 8 := by omega
  have t14 : ¬ c = 14 := by omega
  have t16 : ¬ c = 16 := by omega
  have t18 : ¬ c = 18 := by omega
  have t0 : ¬ c = 0 := by omega
  clear hn
  go_enter Try.func32, Try.ntmps32
  go_upto_region 5 with (fail)
  clear h5 h6 l0
  go_cut [4] (fun v wx => v = .pointer (some ⟨w.heap.size + 1, 0, none⟩) ∧ ((w.alloc (.cells #[.int .u16 0, .int .u16 0, .int .u32 0, .int .u32 0, .int .u8 0, .int .u8 0, .int .u8 0, .int .u16 0, .int .u16 0, .int .u16 0] 27)).alloc (.cells #[.int .u16 (n2F zs 0), .int .u16 (n2F zs 2), .int .u32 (n4F zs 4), .int .u32 (n4F zs 8), .int .u8 (x / 16), .int .u8 0, .int .u8 (y % 64), .int .u16 (n2F zs 14), .int .u16 (n2F zs 16), .int .u16 (n2F zs 18)] 27)).drew = wx)
  case first =>
    go_region_held3 (fun w' => w'.cell? ⟨g, off + 12, none⟩ = some (.int .u8 x) ∧ w'.cell? ⟨g, off + 13, none⟩ = some (.int .u8 y))
      (go_keep)
      (first
        | (go_at_call 55; have h := m5; clear h; refine (C18.out _ ?_).mono ?_
           · first | exact HV.out.draw _ | exact (HV.out.draw 1).kept (new_alloc (new_refl _) _)
           rintro e w6 ⟨rfl, rfl⟩; have m6 := x0)
        | (go_at_call 55; have h := m4; clear h; refine (C16.out _ ?_).mono ?_
           · first | exact HV.out.draw _ | exact (HV.out.draw 1).kept (new_alloc (new_refl _) _)
           rintro e w5 ⟨rfl, rfl⟩; have m5 := x0)
        | (go_at_call 55; have h := m3; clear h; refine (C14.out _ ?_).mono ?_
           · first | exact HV.out.draw _ | exact (HV.out.draw 1).kept (new_alloc (new_refl _) _)
           rintro e w4 ⟨rfl, rfl⟩; have m4 := x0)
        | (go_at_call 55; have h := m2; clear h; refine (C8.out _ ?_).mono ?_
           · first | exact HV.out.draw _ | exact (HV.out.draw 1).kept (new_alloc (new_refl _) _)
           rintro e w3 ⟨rfl, rfl⟩; have m3 := x0)
        | (go_at_call 55; have h := m1; clear h; refine (C4.out _ ?_).mono ?_
           · first | exact HV.out.draw _ | exact (HV.out.draw 1).kept (new_alloc (new_refl _) _)
           rintro e w2 ⟨rfl, rfl⟩; have m2 := x0)
        | (go_at_call 55; have h := m0; clear h; refine (C2.out _ ?_).mono ?_
           · first | exact HV.out.draw _ | exact (HV.out.draw 1).kept (new_alloc (new_refl _) _)
           rintro e w1 ⟨rfl, rfl⟩; have m1 := x0)
        | (go_at_call 55; refine (C0.out _ ?_).mono ?_
           · first | exact HV.out.draw _ | exact (HV.out.draw 1).kept (new_alloc (new_refl _) _)
           rintro e w0 ⟨rfl, rfl⟩; have m0 := x0))
    all_goals
      clear C0 C2 C4 C8 C14 C16 C18 HV
      go_wp2_with fail
      go_meet
      case rel => exact ⟨rfl, rfl⟩
  case rest =>
    obtain ⟨rfl, rfl⟩ := hcut
    clear C0 C2 C4 C8 C14 C16 C18 HV q0 q2 q14 q16 q18 s0 s1 s2 s3 s4 s5 s6 t0 t2 t4 t8 t14 t16 t18 e1 e2 e8
    have hg3 : w.heap.size + 1 ≠ g := by omega
    go_upto_region 6 with (fail)
    go_region_held3 (fun w' => w'.cell? ⟨g, off + 12, none⟩ = some (.int .u8 x) ∧ w'.cell? ⟨g, off + 13, none⟩ = some (.int .u8 y))
      (go_keep)
      (fail)
    all_goals
      clear c0 c1 e4 e5 e6 e7 hg hg2 hg3 l1 l2
      go_wp2_with fail
      exact bodyPost_ret (v := .tuple #[.agg #[.int .u16 (n2F zs 0), .int .u16 (n2F zs 2), .int .u32 (n4F zs 4), .int .u32 (n4F zs 8), .int .u8 (x / 16), .int .u8 (x % 2 * 4 + y / 64), .int .u8 (y % 64), .int .u16 (n2F zs 14), .int .u16 (n2F zs 16), .int .u16 (n2F zs 18)], .int .i64 0]) (by simp [results, Try.results32, go_sem]) rfl ⟨by rw [en.out], new_drew (new_drew (new_alloc (new_alloc (new_refl w) _) _))⟩

/-- Both tell the same of any bytes. -/
theorem decs_same (A : Option Addr) (g L c : Nat) (zs : List Int) (w : World) (h : LsK .u8 w g A zs) (hL : zs.length = L) (hb : bytS zs) (hL2 : L ≤ 100000) (hc : L ≤ c) :
    ∃ hd q, ∀ w', Below w.heap.size w w' → Calls Try.prog 28 #[.slice A L c] w' (DecTo w' hd q) ∧ Calls Try.prog 32 #[.slice A L c] w' (DecTo w' hd q) := by
  by_cases hl : L < 20
  · exact ⟨zeroH, 3, fun w' _ => ⟨decode_short A L c w' hl, refDecode_short A L c w' hl⟩⟩
  · rcases h with rfl | ⟨off, rfl, h⟩
    · simp at hL; omega
    · have V : LsK .u8 w g (some ⟨g, off, none⟩) zs := .inr ⟨off, rfl, h⟩
      by_cases hf : isF zs
      · exact ⟨decF zs, 0, fun w' B => ⟨decode_yes g off L c zs w' (V.kept B) hL hb (by omega) hL2 hf, refDecode_yes g off L c zs w' (V.kept B) hL hb (by omega) hL2 hc hf⟩⟩
      · exact ⟨zeroH, 5, fun w' B => ⟨decode_not g off L c zs w' (V.kept B) hL hb (by omega) hL2 hf, refDecode_not g off L c zs w' (V.kept B) hL hb (by omega) hL2 hf⟩⟩
end Go.Proofs.Ytnkcnfkonifmhaa
