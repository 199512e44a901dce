/- Package segment: Length; the chapter's example. -/
import Derived.Test.YtnkcnfkonifmhaaZSegF
namespace Go.Proofs.Ytnkcnfkonifmhaa
open Go.RowKit
set_option linter.unusedVariables false

set_option maxRecDepth 100000 in
set_option maxHeartbeats 4000000 in
theorem length13_any (h : Hd) (hf : 0 ≤ h.fl ∧ h.fl ≤ 255) (A : Option Addr) (n c : Nat) (d : ByteArray) (z : Int) (w : World) (hd : d.size ≤ 1000000000) (hz : (d.size : Int) + h.fl / 2 % 2 + h.fl % 2 = z) :
    Calls Try.prog 11 #[.agg #[.int .u16 h.src, .int .u16 h.dst, .int .u32 h.seq, .int .u32 h.ack, .int .u8 h.off, .int .u8 h.ace, .int .u8 h.fl, .int .u16 h.win, .int .u16 h.sum, .int .u16 h.urg, .slice A n c, .string d]] w fun e w' => e = .returned (.int .i64 z) ∧ Below w.heap.size w w' := by
  have A0 := At.new w [.int .u16 h.src, .int .u16 h.dst, .int .u32 h.seq, .int .u32 h.ack, .int .u8 h.off, .int .u8 h.ace, .int .u8 h.fl, .int .u16 h.win, .int .u16 h.sum, .int .u16 h.urg, .slice A n c, .string d] 30
  have L0 := new_alloc (new_refl w) (.cells #[.int .u16 h.src, .int .u16 h.dst, .int .u32 h.seq, .int .u32 h.ack, .int .u8 h.off, .int .u8 h.ace, .int .u8 h.fl, .int .u16 h.win, .int .u16 h.sum, .int .u16 h.urg, .slice A n c, .string d] 30)
  have HF := Lib.hid hf
  obtain ⟨y, hy⟩ : ∃ y, (d.size : Int) + h.fl / 2 % 2 = y := ⟨_, rfl⟩
  have h1 : IntKind.i64.wrap ((d.size : Int) + h.fl / 2 % 2) = y := by rw [IntKind.wrap_i64]; omega
  have h2 : IntKind.i64.wrap (y + h.fl % 2) = z := by rw [IntKind.wrap_i64]; omega
  have h3 : wrap64 ((d.size : Int) + h.fl / 2 % 2) = y := by unfold wrap64; omega
  have h4 : wrap64 (y + h.fl % 2) = z := by unfold wrap64; omega
  clear hf hd hz hy
  go_enter Try.func11, Try.ntmps11
  go_upto_region 1 with (fail)
  generalize w.alloc (.cells #[.int .u16 h.src, .int .u16 h.dst, .int .u32 h.seq, .int .u32 h.ack, .int .u8 h.off, .int .u8 h.ace, .int .u8 h.fl, .int .u16 h.win, .int .u16 h.sum, .int .u16 h.urg, .slice A n c, .string d] 30) = W at A0 L0 ⊢
  have c0 := A0.cell 0 rfl; have c1 := A0.cell 1 rfl; have c2 := A0.cell 2 rfl; have c3 := A0.cell 3 rfl; have c4 := A0.cell 4 rfl; have c5 := A0.cell 5 rfl; have c6 := A0.cell 6 rfl; have c7 := A0.cell 7 rfl; have c8 := A0.cell 8 rfl; have c9 := A0.cell 9 rfl; have c10 := A0.cell 10 rfl; have c11 := A0.cell 11 rfl
  have HC := Lib.hid (And.intro c0 (And.intro c1 (And.intro c2 (And.intro c3 (And.intro c4 (And.intro c5 (And.intro c6 (And.intro c7 (And.intro c8 (And.intro c9 (And.intro c10 c11)))))))))))
  go_region_held3 (fun w' => w'.cell? ⟨w.heap.size, 0, none⟩ = some (.int .u16 h.src) ∧ w'.cell? ⟨w.heap.size, 1, none⟩ = some (.int .u16 h.dst) ∧ w'.cell? ⟨w.heap.size, 2, none⟩ = some (.int .u32 h.seq) ∧ w'.cell? ⟨w.heap.size, 3, none⟩ = some (.int .u32 h.ack) ∧ w'.cell? ⟨w.heap.size, 4, none⟩ = some (.int .u8 h.off) ∧ w'.cell? ⟨w.heap.size, 5, none⟩ = some (.int .u8 h.ace) ∧ w'.cell? ⟨w.heap.size, 6, none⟩ = some (.int .u8 h.fl) ∧ w'.cell? ⟨w.heap.size, 7, none⟩ = some (.int .u16 h.win) ∧ w'.cell? ⟨w.heap.size, 8, none⟩ = some (.int .u16 h.sum) ∧ w'.cell? ⟨w.heap.size, 9, none⟩ = some (.int .u16 h.urg) ∧ w'.cell? ⟨w.heap.size, 10, none⟩ = some (.slice A n c) ∧ w'.cell? ⟨w.heap.size, 11, none⟩ = some (.string d))
    (first | go_keep | exact tw_kept B2 (tw_kept B1 HC.out) | exact tw_kept B1 HC.out)
    (first
      | (go_at_call 27; have h := B1; clear h; refine (one_one h HF.out A n c d _).mono ?_; rintro e w2 ⟨rfl, B2⟩)
      | (go_at_call 27; refine (one_two h HF.out A n c d _).mono ?_; rintro e w1 ⟨rfl, B1⟩; replace B1 := new_undrew B1))
  all_goals
    clear c0 c1 c2 c3 c4 c5 c6 c7 c8 c9 c10 c11
    go_wp2_with fail
    go_ret
    exact ⟨by first | rfl | simp [h1, h2, h3, h4], new_then L0 (new_then B1 B2)⟩

theorem own_cap {w : World} {base n c : Nat} {A : Option Addr} {zs : List Int} (h : OwnB w base (.slice A n c) zs) : n ≤ c ∧ c ≤ 9223372036854775807 := by
  rcases h.form with ⟨e, rfl⟩ | ⟨g, c', e⟩
  · simp at e; omega
  · simp at e
    obtain ⟨rfl, rfl, rfl⟩ := e
    obtain ⟨_, h2, h3, _⟩ := h.blk
    unfold maxLen at h3
    exact ⟨h2, by omega⟩
theorem dec_nil (x : Ad) : decG x [] = ((zeroH, [], []), 3) := by unfold decG; rw [if_pos (by decide)]
theorem zero_ok : HdOk zeroH := by constructor <;> exact ⟨by decide, by decide⟩
def ex1 : Ad := ⟨1, 0, 0, 0, 2, 0, 0, 0⟩
theorem ex0_ok : (⟨0, 0, 0, 0, 0, 0, 0, 0⟩ : Ad).ok := by unfold Ad.ok bytS; decide
theorem ex1_ok : ex1.ok := by unfold Ad.ok bytS ex1; decide
def exA : ByteArray := ⟨#[97]⟩
theorem ex_enc : ∃ b, encG ex1 zeroH [] (sb exA) = (b, 0) ∧ b.length = 21 ∧ bytS b ∧ ∃ H, decG ex1 b = ((H, [], sb exA), 0) := by
  have he : ∃ b, encG ex1 zeroH [] (sb exA) = (b, 0) := by
    unfold encG
    rw [if_neg (by simp [chkO]), if_neg (by rw [sb_len]; decide), if_neg (by decide)]
    exact ⟨_, rfl⟩
  obtain ⟨b, hb⟩ := he
  obtain ⟨n, c, h1, _, _, _, _, _, _, _, h2, h3, _⟩ := enc_full ex1_ok zero_ok (sb_byte exA) hb
  have hn : n = 0 := by rw [← h1]; decide
  obtain ⟨n', c', h4, _⟩ := enc_dec ex1_ok zero_ok (fun o ho => by cases ho) (sb_byte exA) hb
  exact ⟨b, hb, by rw [h2, hn, sb_len]; rfl, h3, _, h4⟩
set_option maxRecDepth 100000 in
set_option maxHeartbeats 4000000 in
theorem works13_any (w : World) : Calls Try.prog 12 #[] w fun e w' => e = .returned (.bool true) ∧ Below w.heap.size w w' := by
  obtain ⟨b, hb, hl, hbb, H, hdd⟩ := ex_enc
  have HD1 : ∀ w, Calls Try.prog 13 #[.agg #[.int .u8 0, .int .u8 0, .int .u8 0, .int .u8 0], .agg #[.int .u8 0, .int .u8 0, .int .u8 0, .int .u8 0], .slice none 0 0] w (DecS w ((zeroH, [], []), 3)) := fun w => by
    have h := decS_any ⟨0, 0, 0, 0, 0, 0, 0, 0⟩ ex0_ok none 0 0 0 [] w (.inl rfl) rfl (fun x hx => by cases hx) (by decide) (Nat.le_refl _) (by decide)
    rw [dec_nil] at h
    exact h
  have HE1 : ∀ w, Calls Try.prog 9 #[.agg #[.int .u8 1, .int .u8 0, .int .u8 0, .int .u8 0], .agg #[.int .u8 2, .int .u8 0, .int .u8 0, .int .u8 0], .agg #[.int .u16 0, .int .u16 0, .int .u32 0, .int .u32 0, .int .u8 0, .int .u8 0, .int .u8 0, .int .u16 0, .int .u16 0, .int .u16 0, .slice none 0 0, .string ⟨#[97]⟩]] w (EncS w (b, 0)) := fun w => by
    have h := encS_any ex1 zeroH zero_ok none 0 0 [] exA w ex1_ok (opts_none w none) (by decide) (by decide)
    rw [show ([] : List OC).map OC.o = [] from rfl, hb] at h
    exact h
  have HD2 : ∀ (w : World) (A : Option Addr) (g c : Nat), LsK .u8 w g A b → 21 ≤ c → c ≤ 9223372036854775807 → Calls Try.prog 13 #[.agg #[.int .u8 1, .int .u8 0, .int .u8 0, .int .u8 0], .agg #[.int .u8 2, .int .u8 0, .int .u8 0, .int .u8 0], .slice A 21 c] w (DecS w ((H, [], sb exA), 0)) := fun w A g c h h1 h2 => by
    have k := decS_any ex1 ex1_ok A g 21 c b w h hl hbb (by decide) h1 h2
    rw [hdd] at k
    exact k
  have D1 := Lib.hid HD1
  have E1 := Lib.hid HE1
  have D2 := Lib.hid HD2
  have HL := Lib.hid hl
  clear HD1 HE1 HD2 hb hl hbb hdd
  go_enter Try.func12, Try.ntmps12
  go_upto_region 2 with (first
    | (go_at_call 13; refine (D1.out _).mono ?_; rintro e w1 ⟨A1, n1, c1, xs1, rfl, X1, m1, l1, d1, B1⟩; clear X1 m1; dsimp only))
  have L1 := new_alloc B1 (.cells #[.int .u16 zeroH.src, .int .u16 zeroH.dst, .int .u32 zeroH.seq, .int .u32 zeroH.ack, .int .u8 zeroH.off, .int .u8 zeroH.ace, .int .u8 zeroH.fl, .int .u16 zeroH.win, .int .u16 zeroH.sum, .int .u16 zeroH.urg, .slice A1 n1 c1, .string (strOfNums [])] 30)
  generalize w1.alloc (.cells #[.int .u16 zeroH.src, .int .u16 zeroH.dst, .int .u32 zeroH.seq, .int .u32 zeroH.ack, .int .u8 zeroH.off, .int .u8 zeroH.ace, .int .u8 zeroH.fl, .int .u16 zeroH.win, .int .u16 zeroH.sum, .int .u16 zeroH.urg, .slice A1 n1 c1, .string (strOfNums [])] 30) = W1 at L1 ⊢
  go_upto_region 3 with (first
    | (go_at_call 9; refine (E1.out _).mono ?_; rintro e w2 ⟨A2, n2, c2, rfl, O2, B2⟩; dsimp only))
  obtain rfl : n2 = 21 := (own_len O2).symm.trans HL.out
  obtain ⟨g2, ls2⟩ := own_lsA O2
  obtain ⟨k1, k2⟩ := own_cap O2
  have L2 := new_then L1 B2
  have D3 := Lib.hid (D2.out w2 A2 g2 c2 ls2 k1 k2)
  have hs : strOfNums (sb exA) = ⟨#[97]⟩ := sb_back exA
  clear ls2 k1 k2 O2 B2 L1 D2
  go_wp2_with (first
    | (go_at_call 13; refine D3.out.mono ?_; rintro e w3 ⟨A3, n3, c3, xs3, rfl, X3, m3, l3, d3, B3⟩; clear X3 m3; dsimp only; rw [hs]))
  go_ret
  exact ⟨rfl, new_alloc (new_then L2 B3) _⟩
end Go.Proofs.Ytnkcnfkonifmhaa
