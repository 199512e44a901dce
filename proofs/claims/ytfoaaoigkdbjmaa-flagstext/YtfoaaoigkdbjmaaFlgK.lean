/- The document's Parse of layer 11. -/
import Derived.Test.YtfoaaoigkdbjmaaFlgJ
import Derived.Deep.CutBlock
namespace Go.Proofs.Ytfoaaoigkdbjmaa
open Go.RowKit
set_option linter.unusedVariables false

/-- Which letters were there. -/
def hadL (f : Int) : List Value := [.bool (hasF f 1), .bool (hasF f 2), .bool (hasF f 4), .bool (hasF f 8), .bool (hasF f 16), .bool (hasF f 32)]
theorem hadv0_n : ∀ n : Nat, n < 64 → hasF (n : Int) 1 = false → hasF ((n : Int) + 1) 1 = true ∧ hasF ((n : Int) + 1) 2 = hasF (n : Int) 2 ∧ hasF ((n : Int) + 1) 4 = hasF (n : Int) 4 ∧ hasF ((n : Int) + 1) 8 = hasF (n : Int) 8 ∧ hasF ((n : Int) + 1) 16 = hasF (n : Int) 16 ∧ hasF ((n : Int) + 1) 32 = hasF (n : Int) 32 := by decide +kernel
theorem had_0 {f : Int} (hf : 0 ≤ f ∧ f ≤ 63) (hn : hasF f 1 = false) : (hadL f).set 0 (.bool true) = hadL (f + 1) := by
  obtain ⟨h0, h1, h2, h3, h4, h5⟩ := sixF (P := fun x => hasF x 1 = false → hasF (x + 1) 1 = true ∧ hasF (x + 1) 2 = hasF x 2 ∧ hasF (x + 1) 4 = hasF x 4 ∧ hasF (x + 1) 8 = hasF x 8 ∧ hasF (x + 1) 16 = hasF x 16 ∧ hasF (x + 1) 32 = hasF x 32) hadv0_n hf hn
  simp [hadL, h0, h1, h2, h3, h4, h5]
theorem le63_0 {f : Int} (hf : 0 ≤ f ∧ f ≤ 63) (hn : hasF f 1 = false) : f + 1 ≤ 63 := (sixF (P := fun x => hasF x 1 = false → bits .or .u8 x 1 = x + 1 ∧ x + 1 ≤ 63) orv0_n hf hn).2
theorem ixl_0 (w : World) : (Instr.index 9 (.string ⟨#[70, 83, 82, 80, 65, 85]⟩) (.int .i64 0)).run Try.prog w = .ok (.int .u8 70) w := by kernel_rfl
theorem hadv1_n : ∀ n : Nat, n < 64 → hasF (n : Int) 2 = false → hasF ((n : Int) + 2) 1 = hasF (n : Int) 1 ∧ hasF ((n : Int) + 2) 2 = true ∧ hasF ((n : Int) + 2) 4 = hasF (n : Int) 4 ∧ hasF ((n : Int) + 2) 8 = hasF (n : Int) 8 ∧ hasF ((n : Int) + 2) 16 = hasF (n : Int) 16 ∧ hasF ((n : Int) + 2) 32 = hasF (n : Int) 32 := by decide +kernel
theorem had_1 {f : Int} (hf : 0 ≤ f ∧ f ≤ 63) (hn : hasF f 2 = false) : (hadL f).set 1 (.bool true) = hadL (f + 2) := by
  obtain ⟨h0, h1, h2, h3, h4, h5⟩ := sixF (P := fun x => hasF x 2 = false → hasF (x + 2) 1 = hasF x 1 ∧ hasF (x + 2) 2 = true ∧ hasF (x + 2) 4 = hasF x 4 ∧ hasF (x + 2) 8 = hasF x 8 ∧ hasF (x + 2) 16 = hasF x 16 ∧ hasF (x + 2) 32 = hasF x 32) hadv1_n hf hn
  simp [hadL, h0, h1, h2, h3, h4, h5]
theorem le63_1 {f : Int} (hf : 0 ≤ f ∧ f ≤ 63) (hn : hasF f 2 = false) : f + 2 ≤ 63 := (sixF (P := fun x => hasF x 2 = false → bits .or .u8 x 2 = x + 2 ∧ x + 2 ≤ 63) orv1_n hf hn).2
theorem ixl_1 (w : World) : (Instr.index 9 (.string ⟨#[70, 83, 82, 80, 65, 85]⟩) (.int .i64 1)).run Try.prog w = .ok (.int .u8 83) w := by kernel_rfl
theorem hadv2_n : ∀ n : Nat, n < 64 → hasF (n : Int) 4 = false → hasF ((n : Int) + 4) 1 = hasF (n : Int) 1 ∧ hasF ((n : Int) + 4) 2 = hasF (n : Int) 2 ∧ hasF ((n : Int) + 4) 4 = true ∧ hasF ((n : Int) + 4) 8 = hasF (n : Int) 8 ∧ hasF ((n : Int) + 4) 16 = hasF (n : Int) 16 ∧ hasF ((n : Int) + 4) 32 = hasF (n : Int) 32 := by decide +kernel
theorem had_2 {f : Int} (hf : 0 ≤ f ∧ f ≤ 63) (hn : hasF f 4 = false) : (hadL f).set 2 (.bool true) = hadL (f + 4) := by
  obtain ⟨h0, h1, h2, h3, h4, h5⟩ := sixF (P := fun x => hasF x 4 = false → hasF (x + 4) 1 = hasF x 1 ∧ hasF (x + 4) 2 = hasF x 2 ∧ hasF (x + 4) 4 = true ∧ hasF (x + 4) 8 = hasF x 8 ∧ hasF (x + 4) 16 = hasF x 16 ∧ hasF (x + 4) 32 = hasF x 32) hadv2_n hf hn
  simp [hadL, h0, h1, h2, h3, h4, h5]
theorem le63_2 {f : Int} (hf : 0 ≤ f ∧ f ≤ 63) (hn : hasF f 4 = false) : f + 4 ≤ 63 := (sixF (P := fun x => hasF x 4 = false → bits .or .u8 x 4 = x + 4 ∧ x + 4 ≤ 63) orv2_n hf hn).2
theorem ixl_2 (w : World) : (Instr.index 9 (.string ⟨#[70, 83, 82, 80, 65, 85]⟩) (.int .i64 2)).run Try.prog w = .ok (.int .u8 82) w := by kernel_rfl
theorem hadv3_n : ∀ n : Nat, n < 64 → hasF (n : Int) 8 = false → hasF ((n : Int) + 8) 1 = hasF (n : Int) 1 ∧ hasF ((n : Int) + 8) 2 = hasF (n : Int) 2 ∧ hasF ((n : Int) + 8) 4 = hasF (n : Int) 4 ∧ hasF ((n : Int) + 8) 8 = true ∧ hasF ((n : Int) + 8) 16 = hasF (n : Int) 16 ∧ hasF ((n : Int) + 8) 32 = hasF (n : Int) 32 := by decide +kernel
theorem had_3 {f : Int} (hf : 0 ≤ f ∧ f ≤ 63) (hn : hasF f 8 = false) : (hadL f).set 3 (.bool true) = hadL (f + 8) := by
  obtain ⟨h0, h1, h2, h3, h4, h5⟩ := sixF (P := fun x => hasF x 8 = false → hasF (x + 8) 1 = hasF x 1 ∧ hasF (x + 8) 2 = hasF x 2 ∧ hasF (x + 8) 4 = hasF x 4 ∧ hasF (x + 8) 8 = true ∧ hasF (x + 8) 16 = hasF x 16 ∧ hasF (x + 8) 32 = hasF x 32) hadv3_n hf hn
  simp [hadL, h0, h1, h2, h3, h4, h5]
theorem le63_3 {f : Int} (hf : 0 ≤ f ∧ f ≤ 63) (hn : hasF f 8 = false) : f + 8 ≤ 63 := (sixF (P := fun x => hasF x 8 = false → bits .or .u8 x 8 = x + 8 ∧ x + 8 ≤ 63) orv3_n hf hn).2
theorem ixl_3 (w : World) : (Instr.index 9 (.string ⟨#[70, 83, 82, 80, 65, 85]⟩) (.int .i64 3)).run Try.prog w = .ok (.int .u8 80) w := by kernel_rfl
theorem hadv4_n : ∀ n : Nat, n < 64 → hasF (n : Int) 16 = false → hasF ((n : Int) + 16) 1 = hasF (n : Int) 1 ∧ hasF ((n : Int) + 16) 2 = hasF (n : Int) 2 ∧ hasF ((n : Int) + 16) 4 = hasF (n : Int) 4 ∧ hasF ((n : Int) + 16) 8 = hasF (n : Int) 8 ∧ hasF ((n : Int) + 16) 16 = true ∧ hasF ((n : Int) + 16) 32 = hasF (n : Int) 32 := by decide +kernel
theorem had_4 {f : Int} (hf : 0 ≤ f ∧ f ≤ 63) (hn : hasF f 16 = false) : (hadL f).set 4 (.bool true) = hadL (f + 16) := by
  obtain ⟨h0, h1, h2, h3, h4, h5⟩ := sixF (P := fun x => hasF x 16 = false → hasF (x + 16) 1 = hasF x 1 ∧ hasF (x + 16) 2 = hasF x 2 ∧ hasF (x + 16) 4 = hasF x 4 ∧ hasF (x + 16) 8 = hasF x 8 ∧ hasF (x + 16) 16 = true ∧ hasF (x + 16) 32 = hasF x 32) hadv4_n hf hn
  simp [hadL, h0, h1, h2, h3, h4, h5]
theorem le63_4 {f : Int} (hf : 0 ≤ f ∧ f ≤ 63) (hn : hasF f 16 = false) : f + 16 ≤ 63 := (sixF (P := fun x => hasF x 16 = false → bits .or .u8 x 16 = x + 16 ∧ x + 16 ≤ 63) orv4_n hf hn).2
theorem ixl_4 (w : World) : (Instr.index 9 (.string ⟨#[70, 83, 82, 80, 65, 85]⟩) (.int .i64 4)).run Try.prog w = .ok (.int .u8 65) w := by kernel_rfl
theorem hadv5_n : ∀ n : Nat, n < 64 → hasF (n : Int) 32 = false → hasF ((n : Int) + 32) 1 = hasF (n : Int) 1 ∧ hasF ((n : Int) + 32) 2 = hasF (n : Int) 2 ∧ hasF ((n : Int) + 32) 4 = hasF (n : Int) 4 ∧ hasF ((n : Int) + 32) 8 = hasF (n : Int) 8 ∧ hasF ((n : Int) + 32) 16 = hasF (n : Int) 16 ∧ hasF ((n : Int) + 32) 32 = true := by decide +kernel
theorem had_5 {f : Int} (hf : 0 ≤ f ∧ f ≤ 63) (hn : hasF f 32 = false) : (hadL f).set 5 (.bool true) = hadL (f + 32) := by
  obtain ⟨h0, h1, h2, h3, h4, h5⟩ := sixF (P := fun x => hasF x 32 = false → hasF (x + 32) 1 = hasF x 1 ∧ hasF (x + 32) 2 = hasF x 2 ∧ hasF (x + 32) 4 = hasF x 4 ∧ hasF (x + 32) 8 = hasF x 8 ∧ hasF (x + 32) 16 = hasF x 16 ∧ hasF (x + 32) 32 = true) hadv5_n hf hn
  simp [hadL, h0, h1, h2, h3, h4, h5]
theorem le63_5 {f : Int} (hf : 0 ≤ f ∧ f ≤ 63) (hn : hasF f 32 = false) : f + 32 ≤ 63 := (sixF (P := fun x => hasF x 32 = false → bits .or .u8 x 32 = x + 32 ∧ x + 32 ≤ 63) orv5_n hf hn).2
theorem ixl_5 (w : World) : (Instr.index 9 (.string ⟨#[70, 83, 82, 80, 65, 85]⟩) (.int .i64 5)).run Try.prog w = .ok (.int .u8 85) w := by kernel_rfl
theorem ix_sb {s : ByteArray} {i : Nat} (h : i < s.size) (w : World) : (Instr.index 9 (.string s) (.int .i64 (i : Int))).run Try.prog w = .ok (.int .u8 (bF (sb s) i)) w := by
  rw [run_index_string w _ s .i64 (i : Int) Try.underlying9, dif_pos (by omega), sb_at h]
  rfl
/-- Where a letter stands. -/
def AtF (c : Int) (va vb : Value) : Prop :=
  (c = 70 ∧ va = .int .i64 0 ∧ vb = .int .u8 1) ∨ (c = 83 ∧ va = .int .i64 1 ∧ vb = .int .u8 2) ∨ (c = 82 ∧ va = .int .i64 2 ∧ vb = .int .u8 4) ∨ (c = 80 ∧ va = .int .i64 3 ∧ vb = .int .u8 8) ∨ (c = 65 ∧ va = .int .i64 4 ∧ vb = .int .u8 16) ∨ (c = 85 ∧ va = .int .i64 5 ∧ vb = .int .u8 32) ∨
  (lvF c = 0 ∧ va = .int .i64 (-1) ∧ ∃ b, vb = .int .u8 b)
def pvF : Nat → Int
  | 0 => 1
  | 1 => 2
  | 2 => 4
  | 3 => 8
  | 4 => 16
  | 5 => 32
  | _ => 64
def InF (c : Int) (w : World) (gh : Nat) (va vb vk : Value) (wr : World) : Prop :=
  ∃ k n : Nat, 6 - k = gh ∧ k ≤ 6 ∧ va = .int .i64 (-1) ∧ vb = .int .u8 (pvF k) ∧ vk = .int .i64 (k : Int) ∧ (0 < k → c ≠ 70) ∧ (1 < k → c ≠ 83) ∧ (2 < k → c ≠ 82) ∧ (3 < k → c ≠ 80) ∧ (4 < k → c ≠ 65) ∧ (5 < k → c ≠ 85) ∧ w.drewN n = wr
def RpI (s : ByteArray) (w : World) (R : Option Int) (gh : Nat) (vn vi : Value) (wr : World) : Prop :=
  ∃ (i : Nat) (f : Int), s.size - i = gh ∧ i ≤ s.size ∧ vi = .int .i64 (i : Int) ∧ vn = .int .u8 f ∧ (0 ≤ f ∧ f ≤ 63) ∧ runF f ((sb s).drop i) = R ∧ Blk wr w.heap.size (hadL f) 59 ∧ Below w.heap.size w wr
set_option maxRecDepth 100000 in
set_option maxHeartbeats 2000000 in
theorem refParse_any (s : ByteArray) (w : World) (hs : s.size ≤ 100) : Calls Try.prog 17 #[.string s] w (ParTo w (parF s)) := by
  by_cases hd : s = ⟨#[45]⟩
  · subst hd
    go_enter Try.func17, Try.ntmps17
    go_wp2_with fail
    go_ret2
    exact ⟨rfl, new_refl w⟩
  · have hq := dashF hd
    have hR : parF s = runF 0 (sb s) := by unfold parF; rw [if_neg hd]
    rw [hR]
    clear hd hR
    go_enter Try.func17, Try.ntmps17
    go_wp2_with fail
    clear hq
    go_loopg [5, 6] s.size (fun gh vn vi wr => RpI s w (runF 0 (sb s)) gh vn vi wr)
    case atStart => exact ⟨0, 0, rfl, by omega, rfl, rfl, by omega, rfl, Blk.new w [.bool false, .bool false, .bool false, .bool false, .bool false, .bool false] _, new_alloc (new_refl w) _⟩
    case round =>
      obtain ⟨i, f, rfl, hi, rfl, rfl, hf, hR, hb, hB⟩ := hrel
      have HR := Lib.hid hR
      have HB := Lib.hid hb
      clear hR hb
      generalize runF 0 (sb s) = R at *
      by_cases hlt : i < s.size
      · have i0 : (0 : Int) ≤ (i : Int) := by omega
        have i1 : (i : Int) < (s.size : Int) := by omega
        have HE := Lib.hid (sb_drop hlt)
        have hx := ix_sb hlt
        have hc := sb_byte s (bF (sb s) i) (by rw [bF, List.getElem?_eq_getElem (by rw [sb_len]; exact hlt)]; exact List.getElem_mem _)
        generalize bF (sb s) i = c at HE hx hc
        have l0 := ixl_0
        have l1 := ixl_1
        have l2 := ixl_2
        have l3 := ixl_3
        have l4 := ixl_4
        have l5 := ixl_5
        go_upto_block 2 with (fail)
        go_cut [7, 8] (fun va vb wx => AtF c va vb ∧ ∃ n, wr.drewN n = wx)
        case first =>
          go_wp2_with fail
          go_loopg [7, 8, 9] 6 (fun gh va vb vk wx => InF c wr gh va vb vk wx)
          case atStart => exact ⟨0, 0, rfl, by omega, rfl, rfl, rfl, by omega, by omega, by omega, by omega, by omega, by omega, rfl⟩
          case round =>
            obtain ⟨k, n, rfl, hk, rfl, rfl, rfl, h0, h1, h2, h3, h4, h5, rfl⟩ := hrel
            have H := Lib.hid (And.intro h0 (And.intro h1 (And.intro h2 (And.intro h3 (And.intro h4 h5)))))
            clear h0 h1 h2 h3 h4 h5
            obtain rfl | rfl | rfl | rfl | rfl | rfl | rfl : k = 0 ∨ k = 1 ∨ k = 2 ∨ k = 3 ∨ k = 4 ∨ k = 5 ∨ k = 6 := by omega
            · simp only [pvF]
              by_cases he : c = 70
              · subst he
                go_wp2_with fail
                go_quiet (fail)
                go_wp2_with fail
                go_meet
                case rel => exact ⟨.inl ⟨rfl, rfl, rfl⟩, _, (World.drewN_drewN _ _ _).symm⟩
              · have he2 : (70 == c) = false := by simp; omega
                have HN := Lib.hid he
                clear he
                go_wp2_with fail
                go_quiet (fail)
                go_wp2_with fail
                go_roundg (6 - 1)
                case measure => omega
                case rel =>
                  have he := HN.out
                  obtain ⟨h0, h1, h2, h3, h4, h5⟩ := H.out
                  exact ⟨1, _, rfl, by omega, rfl, rfl, by go_num, by omega, by omega, by omega, by omega, by omega, by omega, rfl⟩
            · simp only [pvF]
              by_cases he : c = 83
              · subst he
                go_wp2_with fail
                go_quiet (fail)
                go_wp2_with fail
                go_meet
                case rel => exact ⟨.inr (.inl ⟨rfl, rfl, rfl⟩), _, (World.drewN_drewN _ _ _).symm⟩
              · have he2 : (83 == c) = false := by simp; omega
                have HN := Lib.hid he
                clear he
                go_wp2_with fail
                go_quiet (fail)
                go_wp2_with fail
                go_roundg (6 - 2)
                case measure => omega
                case rel =>
                  have he := HN.out
                  obtain ⟨h0, h1, h2, h3, h4, h5⟩ := H.out
                  exact ⟨2, _, rfl, by omega, rfl, rfl, by go_num, by omega, by omega, by omega, by omega, by omega, by omega, rfl⟩
            · simp only [pvF]
              by_cases he : c = 82
              · subst he
                go_wp2_with fail
                go_quiet (fail)
                go_wp2_with fail
                go_meet
                case rel => exact ⟨.inr (.inr (.inl ⟨rfl, rfl, rfl⟩)), _, (World.drewN_drewN _ _ _).symm⟩
              · have he2 : (82 == c) = false := by simp; omega
                have HN := Lib.hid he
                clear he
                go_wp2_with fail
                go_quiet (fail)
                go_wp2_with fail
                go_roundg (6 - 3)
                case measure => omega
                case rel =>
                  have he := HN.out
                  obtain ⟨h0, h1, h2, h3, h4, h5⟩ := H.out
                  exact ⟨3, _, rfl, by omega, rfl, rfl, by go_num, by omega, by omega, by omega, by omega, by omega, by omega, rfl⟩
            · simp only [pvF]
              by_cases he : c = 80
              · subst he
                go_wp2_with fail
                go_quiet (fail)
                go_wp2_with fail
                go_meet
                case rel => exact ⟨.inr (.inr (.inr (.inl ⟨rfl, rfl, rfl⟩))), _, (World.drewN_drewN _ _ _).symm⟩
              · have he2 : (80 == c) = false := by simp; omega
                have HN := Lib.hid he
                clear he
                go_wp2_with fail
                go_quiet (fail)
                go_wp2_with fail
                go_roundg (6 - 4)
                case measure => omega
                case rel =>
                  have he := HN.out
                  obtain ⟨h0, h1, h2, h3, h4, h5⟩ := H.out
                  exact ⟨4, _, rfl, by omega, rfl, rfl, by go_num, by omega, by omega, by omega, by omega, by omega, by omega, rfl⟩
            · simp only [pvF]
              by_cases he : c = 65
              · subst he
                go_wp2_with fail
                go_quiet (fail)
                go_wp2_with fail
                go_meet
                case rel => exact ⟨.inr (.inr (.inr (.inr (.inl ⟨rfl, rfl, rfl⟩)))), _, (World.drewN_drewN _ _ _).symm⟩
              · have he2 : (65 == c) = false := by simp; omega
                have HN := Lib.hid he
                clear he
                go_wp2_with fail
                go_quiet (fail)
                go_wp2_with fail
                go_roundg (6 - 5)
                case measure => omega
                case rel =>
                  have he := HN.out
                  obtain ⟨h0, h1, h2, h3, h4, h5⟩ := H.out
                  exact ⟨5, _, rfl, by omega, rfl, rfl, by go_num, by omega, by omega, by omega, by omega, by omega, by omega, rfl⟩
            · simp only [pvF]
              by_cases he : c = 85
              · subst he
                go_wp2_with fail
                go_quiet (fail)
                go_wp2_with fail
                go_meet
                case rel => exact ⟨.inr (.inr (.inr (.inr (.inr (.inl ⟨rfl, rfl, rfl⟩))))), _, (World.drewN_drewN _ _ _).symm⟩
              · have he2 : (85 == c) = false := by simp; omega
                have HN := Lib.hid he
                clear he
                go_wp2_with fail
                go_quiet (fail)
                go_wp2_with fail
                go_roundg (6 - 6)
                case measure => omega
                case rel =>
                  have he := HN.out
                  obtain ⟨h0, h1, h2, h3, h4, h5⟩ := H.out
                  exact ⟨6, _, rfl, by omega, rfl, rfl, by go_num, by omega, by omega, by omega, by omega, by omega, by omega, rfl⟩
            · have e : Hid (lvF c = 0) := Lib.hid (by
                obtain ⟨h0, h1, h2, h3, h4, h5⟩ := H.out
                unfold lvF
                rw [if_neg (h0 (by omega)), if_neg (h1 (by omega)), if_neg (h2 (by omega)), if_neg (h3 (by omega)), if_neg (h4 (by omega)), if_neg (h5 (by omega))])
              go_wp2_with fail
              go_meet
              case rel => exact ⟨.inr (.inr (.inr (.inr (.inr (.inr ⟨e.out, rfl, _, rfl⟩))))), _, rfl⟩
        case rest =>
          obtain ⟨hA, n, rfl⟩ := hcut
          have hb := HB.out.draw n
          have hB2 := new_draw hB n
          clear l0 l1 l2 l3 l4 l5 hx HB
          rcases hA with ⟨rfl, rfl, rfl⟩ | ⟨rfl, rfl, rfl⟩ | ⟨rfl, rfl, rfl⟩ | ⟨rfl, rfl, rfl⟩ | ⟨rfl, rfl, rfl⟩ | ⟨rfl, rfl, rfl⟩ | ⟨h0, rfl, b, rfl⟩
          · have ck := hb.cell 0 rfl
            have fk := hb.frozen 0
            have HB2 := Lib.hid hb
            have HB3 := Lib.hid hB2
            clear hb hB2 hB
            cases hh : hasF f 1
            · have e : Hid (runF (f + 1) ((sb s).drop (i + 1)) = R) := Lib.hid (by
                rw [← HR.out, HE.out]
                conv => rhs; unfold runF
                rw [show lvF 70 = 1 by decide, if_neg (by decide), hh]; rfl)
              have hle := le63_0 hf hh
              have e1 : IntKind.u8.wrap (f + 1) = f + 1 := by rw [IntKind.wrap_u8]; omega
              have HS := Lib.hid (HB2.out.set 0 (.bool true))
              rw [had_0 hf hh] at HS
              rw [hh] at ck
              clear hh
              go_wp2_with fail
              go_roundg (s.size - (i + 1))
              case measure => omega
              case rel => exact ⟨i + 1, f + 1, rfl, by omega, by go_num, rfl, by omega, e.out, HS.out, new_set HB3.out (Nat.le_refl _) _⟩
            · have e : Hid (R = none) := Lib.hid (by
                rw [← HR.out, HE.out]
                unfold runF
                rw [show lvF 70 = 1 by decide, if_neg (by decide), hh]; rfl)
              rw [hh] at ck
              clear hh
              go_wp2_with fail
              go_ret2
              exact ⟨by rw [e.out]; rfl, HB3.out⟩
          · have ck := hb.cell 1 rfl
            have fk := hb.frozen 1
            have HB2 := Lib.hid hb
            have HB3 := Lib.hid hB2
            clear hb hB2 hB
            cases hh : hasF f 2
            · have e : Hid (runF (f + 2) ((sb s).drop (i + 1)) = R) := Lib.hid (by
                rw [← HR.out, HE.out]
                conv => rhs; unfold runF
                rw [show lvF 83 = 2 by decide, if_neg (by decide), hh]; rfl)
              have hle := le63_1 hf hh
              have e1 : IntKind.u8.wrap (f + 2) = f + 2 := by rw [IntKind.wrap_u8]; omega
              have HS := Lib.hid (HB2.out.set 1 (.bool true))
              rw [had_1 hf hh] at HS
              rw [hh] at ck
              clear hh
              go_wp2_with fail
              go_roundg (s.size - (i + 1))
              case measure => omega
              case rel => exact ⟨i + 1, f + 2, rfl, by omega, by go_num, rfl, by omega, e.out, HS.out, new_set HB3.out (Nat.le_refl _) _⟩
            · have e : Hid (R = none) := Lib.hid (by
                rw [← HR.out, HE.out]
                unfold runF
                rw [show lvF 83 = 2 by decide, if_neg (by decide), hh]; rfl)
              rw [hh] at ck
              clear hh
              go_wp2_with fail
              go_ret2
              exact ⟨by rw [e.out]; rfl, HB3.out⟩
          · have ck := hb.cell 2 rfl
            have fk := hb.frozen 2
            have HB2 := Lib.hid hb
            have HB3 := Lib.hid hB2
            clear hb hB2 hB
            cases hh : hasF f 4
            · have e : Hid (runF (f + 4) ((sb s).drop (i + 1)) = R) := Lib.hid (by
                rw [← HR.out, HE.out]
                conv => rhs; unfold runF
                rw [show lvF 82 = 4 by decide, if_neg (by decide), hh]; rfl)
              have hle := le63_2 hf hh
              have e1 : IntKind.u8.wrap (f + 4) = f + 4 := by rw [IntKind.wrap_u8]; omega
              have HS := Lib.hid (HB2.out.set 2 (.bool true))
              rw [had_2 hf hh] at HS
              rw [hh] at ck
              clear hh
              go_wp2_with fail
              go_roundg (s.size - (i + 1))
              case measure => omega
              case rel => exact ⟨i + 1, f + 4, rfl, by omega, by go_num, rfl, by omega, e.out, HS.out, new_set HB3.out (Nat.le_refl _) _⟩
            · have e : Hid (R = none) := Lib.hid (by
                rw [← HR.out, HE.out]
                unfold runF
                rw [show lvF 82 = 4 by decide, if_neg (by decide), hh]; rfl)
              rw [hh] at ck
              clear hh
              go_wp2_with fail
              go_ret2
              exact ⟨by rw [e.out]; rfl, HB3.out⟩
          · have ck := hb.cell 3 rfl
            have fk := hb.frozen 3
            have HB2 := Lib.hid hb
            have HB3 := Lib.hid hB2
            clear hb hB2 hB
            cases hh : hasF f 8
            · have e : Hid (runF (f + 8) ((sb s).drop (i + 1)) = R) := Lib.hid (by
                rw [← HR.out, HE.out]
                conv => rhs; unfold runF
                rw [show lvF 80 = 8 by decide, if_neg (by decide), hh]; rfl)
              have hle := le63_3 hf hh
              have e1 : IntKind.u8.wrap (f + 8) = f + 8 := by rw [IntKind.wrap_u8]; omega
              have HS := Lib.hid (HB2.out.set 3 (.bool true))
              rw [had_3 hf hh] at HS
              rw [hh] at ck
              clear hh
              go_wp2_with fail
              go_roundg (s.size - (i + 1))
              case measure => omega
              case rel => exact ⟨i + 1, f + 8, rfl, by omega, by go_num, rfl, by omega, e.out, HS.out, new_set HB3.out (Nat.le_refl _) _⟩
            · have e : Hid (R = none) := Lib.hid (by
                rw [← HR.out, HE.out]
                unfold runF
                rw [show lvF 80 = 8 by decide, if_neg (by decide), hh]; rfl)
              rw [hh] at ck
              clear hh
              go_wp2_with fail
              go_ret2
              exact ⟨by rw [e.out]; rfl, HB3.out⟩
          · have ck := hb.cell 4 rfl
            have fk := hb.frozen 4
            have HB2 := Lib.hid hb
            have HB3 := Lib.hid hB2
            clear hb hB2 hB
            cases hh : hasF f 16
            · have e : Hid (runF (f + 16) ((sb s).drop (i + 1)) = R) := Lib.hid (by
                rw [← HR.out, HE.out]
                conv => rhs; unfold runF
                rw [show lvF 65 = 16 by decide, if_neg (by decide), hh]; rfl)
              have hle := le63_4 hf hh
              have e1 : IntKind.u8.wrap (f + 16) = f + 16 := by rw [IntKind.wrap_u8]; omega
              have HS := Lib.hid (HB2.out.set 4 (.bool true))
              rw [had_4 hf hh] at HS
              rw [hh] at ck
              clear hh
              go_wp2_with fail
              go_roundg (s.size - (i + 1))
              case measure => omega
              case rel => exact ⟨i + 1, f + 16, rfl, by omega, by go_num, rfl, by omega, e.out, HS.out, new_set HB3.out (Nat.le_refl _) _⟩
            · have e : Hid (R = none) := Lib.hid (by
                rw [← HR.out, HE.out]
                unfold runF
                rw [show lvF 65 = 16 by decide, if_neg (by decide), hh]; rfl)
              rw [hh] at ck
              clear hh
              go_wp2_with fail
              go_ret2
              exact ⟨by rw [e.out]; rfl, HB3.out⟩
          · have ck := hb.cell 5 rfl
            have fk := hb.frozen 5
            have HB2 := Lib.hid hb
            have HB3 := Lib.hid hB2
            clear hb hB2 hB
            cases hh : hasF f 32
            · have e : Hid (runF (f + 32) ((sb s).drop (i + 1)) = R) := Lib.hid (by
                rw [← HR.out, HE.out]
                conv => rhs; unfold runF
                rw [show lvF 85 = 32 by decide, if_neg (by decide), hh]; rfl)
              have hle := le63_5 hf hh
              have e1 : IntKind.u8.wrap (f + 32) = f + 32 := by rw [IntKind.wrap_u8]; omega
              have HS := Lib.hid (HB2.out.set 5 (.bool true))
              rw [had_5 hf hh] at HS
              rw [hh] at ck
              clear hh
              go_wp2_with fail
              go_roundg (s.size - (i + 1))
              case measure => omega
              case rel => exact ⟨i + 1, f + 32, rfl, by omega, by go_num, rfl, by omega, e.out, HS.out, new_set HB3.out (Nat.le_refl _) _⟩
            · have e : Hid (R = none) := Lib.hid (by
                rw [← HR.out, HE.out]
                unfold runF
                rw [show lvF 85 = 32 by decide, if_neg (by decide), hh]; rfl)
              rw [hh] at ck
              clear hh
              go_wp2_with fail
              go_ret2
              exact ⟨by rw [e.out]; rfl, HB3.out⟩
          · have e : Hid (R = none) := Lib.hid (by
              rw [← HR.out, HE.out]
              unfold runF
              rw [if_pos h0])
            clear h0
            go_wp2_with fail
            go_ret2
            exact ⟨by rw [e.out]; rfl, hB2⟩
      · obtain rfl : i = s.size := by omega
        have e : Hid (some f = R) := Lib.hid (by rw [← HR.out, sb_end (Nat.le_refl _)]; rfl)
        go_wp2_with fail
        go_ret2
        exact ⟨by rw [← e.out]; rfl, hB⟩
end Go.Proofs.Ytfoaaoigkdbjmaa
