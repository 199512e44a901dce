/- SegmentTurned walked. -/
import Derived.Test.YtnkcnfkonifmhaaZSegLc
namespace Go.Proofs.Ytnkcnfkonifmhaa
open Go.RowKit
set_option linter.unusedVariables false

theorem flip_b : ∀ n : Nat, n < 256 → ∀ j : Nat, j < 8 → bits .xor .u8 (n : Int) ((2 : Int) ^ j % 256) = flipG (n : Int) j := by decide +kernel
theorem byt_set {bs : List Int} (h : bytS bs) {z : Int} (hz : 0 ≤ z ∧ z ≤ 255) (p : Nat) : bytS (bs.set p z) := by
  intro y hy
  rcases List.mem_or_eq_of_mem_set hy with h' | rfl
  · exact h y h'
  · exact hz
theorem tw8_kept {W w1 w2 : World} {g k : Nat} {t u : TypeId} {v0 v1 v2 v3 v4 v5 v6 v7 u0 u1 u2 u3 u4 u5 u6 u7 u8 u9 u10 u11 : Value} (A : Blk W g [v0, v1, v2, v3, v4, v5, v6, v7] t) (B : Blk W k [u0, u1, u2, u3, u4, u5, u6, u7, u8, u9, u10, u11] u) (h2 : Below w1.heap.size w1 w2) (h1 : Below W.heap.size W w1) :
    w2.cell? ⟨g, 0, none⟩ = some v0 ∧ w2.cell? ⟨g, 1, none⟩ = some v1 ∧ w2.cell? ⟨g, 2, none⟩ = some v2 ∧ w2.cell? ⟨g, 3, none⟩ = some v3 ∧ w2.cell? ⟨g, 4, none⟩ = some v4 ∧ w2.cell? ⟨g, 5, none⟩ = some v5 ∧ w2.cell? ⟨g, 6, none⟩ = some v6 ∧ w2.cell? ⟨g, 7, none⟩ = some v7 ∧ w2.cell? ⟨k, 0, none⟩ = some u0 ∧ w2.cell? ⟨k, 1, none⟩ = some u1 ∧ w2.cell? ⟨k, 2, none⟩ = some u2 ∧ w2.cell? ⟨k, 3, none⟩ = some u3 ∧ w2.cell? ⟨k, 4, none⟩ = some u4 ∧ w2.cell? ⟨k, 5, none⟩ = some u5 ∧ w2.cell? ⟨k, 6, none⟩ = some u6 ∧ w2.cell? ⟨k, 7, none⟩ = some u7 ∧ w2.cell? ⟨k, 8, none⟩ = some u8 ∧ w2.cell? ⟨k, 9, none⟩ = some u9 ∧ w2.cell? ⟨k, 10, none⟩ = some u10 ∧ w2.cell? ⟨k, 11, none⟩ = some u11 := by
  have A2 := (A.kept h1).kept h2
  have B2 := (B.kept h1).kept h2
  exact ⟨A2.cell 0 rfl, A2.cell 1 rfl, A2.cell 2 rfl, A2.cell 3 rfl, A2.cell 4 rfl, A2.cell 5 rfl, A2.cell 6 rfl, A2.cell 7 rfl, B2.cell 0 rfl, B2.cell 1 rfl, B2.cell 2 rfl, B2.cell 3 rfl, B2.cell 4 rfl, B2.cell 5 rfl, B2.cell 6 rfl, B2.cell 7 rfl, B2.cell 8 rfl, B2.cell 9 rfl, B2.cell 10 rfl, B2.cell 11 rfl⟩
set_option maxRecDepth 100000 in
set_option maxHeartbeats 8000000 in
theorem segTurned_any (x : Ad) (hx : x.ok) (h : Hd) (ok : HdOk h) (a : Option Addr) (len cap : Nat) (d : ByteArray) (nn : Int) (w : World) (hs : SrcO w a len) (hlen : len ≤ maxLen) (hd : d.size ≤ maxLen) (h0 : 0 ≤ nn) (h1 : nn ≤ 65535) :
    Calls Try.prog 6 #[.agg #[.int .u8 x.a, .int .u8 x.b, .int .u8 x.c, .int .u8 x.d, .int .u8 x.e, .int .u8 x.f, .int .u8 x.g, .int .u8 x.h], .agg #[.int .u16 h.src, .int .u16 h.dst, .int .u32 h.seq, .int .u32 h.ack, .int .u8 h.off, .int .u8 h.ace, .int .u8 h.fl, .int .u16 h.win, .int .u16 h.sum, .int .u16 h.urg, .slice a len cap, .string d], .int .u16 nn] w fun e w' => e = .returned (.bool true) ∧ Below w.heap.size w w' := by
  have HF : Hid (∀ w', Below w.heap.size w w' → Calls Try.prog 8 #[.agg #[.int .u16 h.src, .int .u16 h.dst, .int .u32 h.seq, .int .u32 h.ack, .int .u8 h.off, .int .u8 h.ace, .int .u8 h.fl, .int .u16 h.win, .int .u16 h.sum, .int .u16 h.urg, .slice a len cap, .string d]] w' (FewS w w' h)) := Lib.hid (fun w' B => few13_any h a len cap d w w' B hs hlen hd)
  have BA := (Blk.new w [.int .u8 x.a, .int .u8 x.b, .int .u8 x.c, .int .u8 x.d, .int .u8 x.e, .int .u8 x.f, .int .u8 x.g, .int .u8 x.h] 23).alloc (.cells #[.int .u16 h.src, .int .u16 h.dst, .int .u32 h.seq, .int .u32 h.ack, .int .u8 h.off, .int .u8 h.ace, .int .u8 h.fl, .int .u16 h.win, .int .u16 h.sum, .int .u16 h.urg, .slice a len cap, .string d] 30)
  have BS := Blk.newAt (alloc_size w (.cells #[.int .u8 x.a, .int .u8 x.b, .int .u8 x.c, .int .u8 x.d, .int .u8 x.e, .int .u8 x.f, .int .u8 x.g, .int .u8 x.h] 23)) [.int .u16 h.src, .int .u16 h.dst, .int .u32 h.seq, .int .u32 h.ack, .int .u8 h.off, .int .u8 h.ace, .int .u8 h.fl, .int .u16 h.win, .int .u16 h.sum, .int .u16 h.urg, .slice a len cap, .string d] 30
  have L0 := new_alloc (new_alloc (new_refl w) (.cells #[.int .u8 x.a, .int .u8 x.b, .int .u8 x.c, .int .u8 x.d, .int .u8 x.e, .int .u8 x.f, .int .u8 x.g, .int .u8 x.h] 23)) (.cells #[.int .u16 h.src, .int .u16 h.dst, .int .u32 h.seq, .int .u32 h.ack, .int .u8 h.off, .int .u8 h.ace, .int .u8 h.fl, .int .u16 h.win, .int .u16 h.sum, .int .u16 h.urg, .slice a len cap, .string d] 30)
  have HX := Lib.hid hx
  have OK := Lib.hid ok
  clear hs hlen hd hx ok
  go_enter Try.func6, Try.ntmps6
  go_upto_region 1 with (fail)
  generalize (w.alloc (.cells #[.int .u8 x.a, .int .u8 x.b, .int .u8 x.c, .int .u8 x.d, .int .u8 x.e, .int .u8 x.f, .int .u8 x.g, .int .u8 x.h] 23)).alloc (.cells #[.int .u16 h.src, .int .u16 h.dst, .int .u32 h.seq, .int .u32 h.ack, .int .u8 h.off, .int .u8 h.ace, .int .u8 h.fl, .int .u16 h.win, .int .u16 h.sum, .int .u16 h.urg, .slice a len cap, .string d] 30) = W at BA BS L0 ⊢
  go_cut [7, 8] (fun v u wx => ∃ (A : Option Addr) (n c : Nat) (dd : ByteArray) (os : List Opt) (bs : List Int) (q : Int), v = .slice A n c ∧ u = .int .i64 q ∧ encG x h os (sb dd) = (bs, q) ∧ dd.size ≤ 100 ∧ (∀ o ∈ os, posO o) ∧ ∃ wy, OwnB wx wy.heap.size (.slice A n c) bs ∧ Below W.heap.size W wy ∧ Below wy.heap.size wy wx)
  case first =>
    have c0 := BS.cell 0 rfl; have c1 := BS.cell 1 rfl; have c2 := BS.cell 2 rfl; have c3 := BS.cell 3 rfl; have c4 := BS.cell 4 rfl; have c5 := BS.cell 5 rfl; have c6 := BS.cell 6 rfl; have c7 := BS.cell 7 rfl; have c8 := BS.cell 8 rfl; have c9 := BS.cell 9 rfl; have c10 := BS.cell 10 rfl; have c11 := BS.cell 11 rfl
    have p0 := BA.cell 0 rfl; have p1 := BA.cell 1 rfl; have p2 := BA.cell 2 rfl; have p3 := BA.cell 3 rfl; have p4 := BA.cell 4 rfl; have p5 := BA.cell 5 rfl; have p6 := BA.cell 6 rfl; have p7 := BA.cell 7 rfl
    go_region_held3 (fun w' => w'.cell? ⟨w.heap.size, 0, none⟩ = some (.int .u8 x.a) ∧ w'.cell? ⟨w.heap.size, 1, none⟩ = some (.int .u8 x.b) ∧ w'.cell? ⟨w.heap.size, 2, none⟩ = some (.int .u8 x.c) ∧ w'.cell? ⟨w.heap.size, 3, none⟩ = some (.int .u8 x.d) ∧ w'.cell? ⟨w.heap.size, 4, none⟩ = some (.int .u8 x.e) ∧ w'.cell? ⟨w.heap.size, 5, none⟩ = some (.int .u8 x.f) ∧ w'.cell? ⟨w.heap.size, 6, none⟩ = some (.int .u8 x.g) ∧ w'.cell? ⟨w.heap.size, 7, none⟩ = some (.int .u8 x.h) ∧ w'.cell? ⟨w.heap.size + 1, 0, none⟩ = some (.int .u16 h.src) ∧ w'.cell? ⟨w.heap.size + 1, 1, none⟩ = some (.int .u16 h.dst) ∧ w'.cell? ⟨w.heap.size + 1, 2, none⟩ = some (.int .u32 h.seq) ∧ w'.cell? ⟨w.heap.size + 1, 3, none⟩ = some (.int .u32 h.ack) ∧ w'.cell? ⟨w.heap.size + 1, 4, none⟩ = some (.int .u8 h.off) ∧ w'.cell? ⟨w.heap.size + 1, 5, none⟩ = some (.int .u8 h.ace) ∧ w'.cell? ⟨w.heap.size + 1, 6, none⟩ = some (.int .u8 h.fl) ∧ w'.cell? ⟨w.heap.size + 1, 7, none⟩ = some (.int .u16 h.win) ∧ w'.cell? ⟨w.heap.size + 1, 8, none⟩ = some (.int .u16 h.sum) ∧ w'.cell? ⟨w.heap.size + 1, 9, none⟩ = some (.int .u16 h.urg) ∧ w'.cell? ⟨w.heap.size + 1, 10, none⟩ = some (.slice a len cap) ∧ w'.cell? ⟨w.heap.size + 1, 11, none⟩ = some (.string d))
      (first | go_keep | exact tw8_kept BA BS B4 B2 | exact tw8_kept BA BS (new_refl _) B2)
      (first
        | (go_at_call 9; refine (encS_any x h OK.out A2 n2 k2 xs dd w2 HX.out X2 (Nat.le_trans n12 (by decide)) (Nat.le_trans hdd (by decide))).mono ?_; rintro e w4 ⟨A4, n4, k4, rfl, O4, B4⟩)
        | (go_at_call 8; refine (HF.out _ (new_drew L0)).mono ?_; rintro e w2 ⟨A2, n2, k2, xs, dd, rfl, X2, n12, hc2, hdd, B2, rw2, f2⟩; replace B2 := new_undrew B2))
    all_goals
      clear c0 c1 c2 c3 c4 c5 c6 c7 c8 c9 c10 c11 p0 p1 p2 p3 p4 p5 p6 p7
      go_wp2_with fail
      go_meet
      case rel => exact ⟨A4, n4, k4, dd, xs.map OC.o, _, _, rfl, rfl, rfl, hdd, pos_hasG X2.has, w2, O4, B2, B4⟩
  case rest =>
    obtain ⟨A4, n4, k4, dd, os, bs, q, rfl, rfl, he, hdd, hpo, wy, O4, By, Bx⟩ := hcut
    have L4 := new_then L0 (new_then By Bx)
    have BA4 := (BA.kept By).kept Bx
    by_cases hq : q = 0
    · subst hq
      obtain ⟨_, _, _, hn40, _, _, _, _, _, _, hbl, hbb, _⟩ := enc_full HX.out OK.out (sb_byte dd) he
      have hln := own_len O4
      have hpos : 0 < n4 := by omega
      have hn4 : n4 ≤ 1000 := by rw [sb_len] at hbl; omega
      obtain ⟨g4, k4', e4, _, _⟩ := O4.some hln hpos
      simp at e4
      obtain ⟨rfl, rfl⟩ := e4
      obtain ⟨kc1, kc2⟩ := own_cap O4
      obtain ⟨kk, hk⟩ : ∃ kk : Nat, nn % (8 * (n4 : Int)) = (kk : Int) := ⟨(nn % (8 * (n4 : Int))).toNat, by have := Int.emod_nonneg nn (show 8 * (n4 : Int) ≠ 0 by omega); omega⟩
      have hk2 : kk < 8 * n4 := by have := Int.emod_lt_of_pos nn (show 0 < 8 * (n4 : Int) by omega); omega
      obtain ⟨p, hp⟩ : ∃ p, kk / 8 = p := ⟨_, rfl⟩
      obtain ⟨j, hj⟩ : ∃ j, kk % 8 = j := ⟨_, rfl⟩
      have hpl : p < n4 := by omega
      have hj8 : j < 8 := by omega
      obtain ⟨zz, hzz⟩ : ∃ zz, bF bs p = zz := ⟨_, rfl⟩
      have hzb := bF_bd hbb hln hpl
      rw [hzz] at hzb
      have e0 : wrap64 (8 * (n4 : Int)) = 8 * (n4 : Int) := by unfold wrap64; omega
      have e1 : nn.tmod (8 * (n4 : Int)) = (kk : Int) := by rw [Int.tmod_eq_emod_of_nonneg h0]; exact hk
      have e1' : nn % (8 * (n4 : Int)) = (kk : Int) := hk
      have e2 : (kk : Int).tdiv 8 = (p : Int) := by rw [Int.tdiv_eq_ediv_of_nonneg (by omega)]; omega
      have e2' : (kk : Int) / 8 = (p : Int) := by omega
      have e3 : (kk : Int).tmod 8 = (j : Int) := by rw [Int.tmod_eq_emod_of_nonneg (by omega)]; omega
      have e3' : (kk : Int) % 8 = (j : Int) := by omega
      have z1 : ¬ 8 * (n4 : Int) = 0 := by omega
      have z2 : ¬ n4 = 0 := by omega
      have z3 : ¬ (n4 : Int) = 0 := by omega
      have i1 : (0 : Int) ≤ (p : Int) := by omega
      have i2 : (p : Int) < (n4 : Int) := by omega
      have cp : wc.cell? ⟨g4, p, none⟩ = some (.int .u8 zz) := by have := O4.cell (i := p) (by omega); rw [← hzz]; exact this
      have fp : wc.frozen? ⟨g4, p, none⟩ = false := by obtain ⟨_, _, _, _, cur, _, hB, _⟩ := O4.blk; exact hB.frozen p
      go_upto_region 5 with (fail)
      go_upto_region 6 with (fail)
      have hfb := flip_b zz.toNat (by omega) j hj8
      rw [show ((zz.toNat : Nat) : Int) = zz by omega] at hfb
      rw [hfb]
      obtain ⟨v, hv⟩ : ∃ v, flipG zz j = v := ⟨_, rfl⟩
      have hvb := flip_bd hzb hj8
      rw [hv] at hvb ⊢
      have O6 := ownSet O4 p v
      have hlow := ownLow O4
      have L6 := new_set (p := ⟨g4, p, none⟩) L4 (by have := By.size; have := L0.size; show w.heap.size ≤ g4; omega) (.int .u8 v)
      have BA6 := BA4.far (p := ⟨g4, p, none⟩) (show w.heap.size ≠ g4 by have := By.size; have := BA.lt; omega) (.int .u8 v)
      have hpb : p < bs.length := by omega
      obtain ⟨ht1, ht2⟩ := enc_turned HX.out OK.out (sb_byte dd) he hpb hj8
      have hzp : bs[p] = zz := by rw [← hzz, bF, List.getElem?_eq_getElem hpb]; rfl
      rw [hzp, hv] at ht1 ht2
      obtain ⟨q', hq'⟩ : ∃ q', (decG x (bs.set p v)).2 = q' := ⟨_, rfl⟩
      rw [hq'] at ht1
      have hdt : decG x (bs.set p v) = ((zeroH, [], []), q') := by rw [← hq', ← ht2]
      have hl6 : (bs.set p v).length = n4 := by rw [List.length_set]; exact hln
      have C1 : Hid (Calls Try.prog 13 #[.agg #[.int .u8 x.a, .int .u8 x.b, .int .u8 x.c, .int .u8 x.d], .agg #[.int .u8 x.e, .int .u8 x.f, .int .u8 x.g, .int .u8 x.h], .slice (some ⟨g4, 0, none⟩) n4 k4] (wc.setCell ⟨g4, p, none⟩ (.int .u8 v)) (DecL (wc.setCell ⟨g4, p, none⟩ (.int .u8 v)) zeroH [] ⟨#[]⟩ q')) := Lib.hid ((decS_any x HX.out (some ⟨g4, 0, none⟩) g4 n4 k4 (bs.set p v) _ (own_ls O6) hl6 (byt_set hbb hvb p) hn4 kc1 kc2).mono fun e w'' h' => by
        rw [hdt] at h'
        exact h'.letters rfl)
      have hq2 : (q' == 0) = false := by simp [ht1]
      generalize wc.setCell ⟨g4, p, none⟩ (.int .u8 v) = W6 at L6 BA6 C1 ⊢
      clear BA4 BA L4 By Bx O4 O6 hdt ht2 cp fp hfb hzz hzp e0 e1 e1' e2 e2' e3 e3'
      have c0 := BA6.cell 0 rfl; have c1 := BA6.cell 1 rfl; have c2 := BA6.cell 2 rfl; have c3 := BA6.cell 3 rfl; have c4 := BA6.cell 4 rfl; have c5 := BA6.cell 5 rfl; have c6 := BA6.cell 6 rfl; have c7 := BA6.cell 7 rfl
      go_upto_region 7 with (first
        | (go_at_call 13; refine C1.out.mono ?_; rintro e w7 ⟨A7, n7, k7, ys, rfl, X7, m7, l7, d7, B7⟩))
      clear c0 c1 c2 c3 c4 c5 c6 c7
      obtain rfl : ys = [] := by simpa using m7
      obtain rfl : n7 = 0 := X7.len.symm
      have CS := Lib.hid (fun w' (hB : Below w7.heap.size w7 w') => same13_any zeroH A7 none 0 k7 0 [] [] ⟨#[]⟩ w' (X7.kept hB) (opts_none _ _) rfl (by decide))
      have L7 := new_then L6 B7
      have R8 := new_alloc (new_refl w7) (.cells #[.int .u16 zeroH.src, .int .u16 zeroH.dst, .int .u32 zeroH.seq, .int .u32 zeroH.ack, .int .u8 zeroH.off, .int .u8 zeroH.ace, .int .u8 zeroH.fl, .int .u16 zeroH.win, .int .u16 zeroH.sum, .int .u16 zeroH.urg, .slice A7 0 k7, .string ⟨#[]⟩] 30)
      have CS8 := Lib.hid (CS.out _ R8)
      clear X7 m7 CS C1 BA6
      go_wp2_with (first
        | (go_at_call 15; refine CS8.out.mono ?_; rintro e w8 ⟨rfl, B8⟩)
        | (go_at_call 12; refine (works13_any _).mono ?_; rintro e w9 ⟨rfl, B9⟩))
      go_ret
      exact ⟨ret_bool (by simp [ht1]), new_then (new_then (new_then L7 R8) B8) B9⟩
    · have hq' : (q == 0) = false := by simp [hq]
      go_wp2_with (first
        | (go_at_call 12; refine (works13_any _).mono ?_; rintro e w9 ⟨rfl, B9⟩))
      go_ret
      exact ⟨rfl, new_then L4 B9⟩
end Go.Proofs.Ytnkcnfkonifmhaa
