/- For every header and all bytes (the first sixty of any list), a header that flags.Encode lets be is decoded by flags.Decode as it was, whatever bytes stand behind it; bytes that flags.Decode takes are encoded to themselves; and the chapter's example holds: FlagsBack returns true and changes nothing. No conditions. -/
import Derived.Test.YtfoaaoigkdbjmaaKit
import Derived.Test.YtfoaaoigkdbjmaaFlgG
namespace Go.Proofs.Ytfoaaoigkdbjmaa
namespace flagsBack
open Go.ChangeShapes Go.WideShapes Go.ChangeAt Go.RowKit
open Go.ChangeMaps (open_string shut_string)
set_option linter.unusedVariables false

theorem own : ownKnob Try.prog.godebug = none := by kernel_rfl
theorem laidOut : laidOutB Try.prog = true := by kernel_rfl

set_option maxHeartbeats 4000000 in
set_option maxRecDepth 100000 in
theorem walk (a0x0 : Int) (a0x1 : Int) (a0x2 : Int) (a0x3 : Int) (a0x4 : Int) (a0x5 : Int) (a0x6 : Int) (a0x7 : Int) (a0x8 : Int) (a0x9 : Int) (a1 : Option Addr) (len1 cap1 : Nat) (z1 : List Int) (w : World) (w0x0 : (Lit.int .u16 a0x0).wf = true) (w0x1 : (Lit.int .u16 a0x1).wf = true) (w0x2 : (Lit.int .u32 a0x2).wf = true) (w0x3 : (Lit.int .u32 a0x3).wf = true) (w0x4 : (Lit.int .u8 a0x4).wf = true) (w0x5 : (Lit.int .u8 a0x5).wf = true) (w0x6 : (Lit.int .u8 a0x6).wf = true) (w0x7 : (Lit.int .u16 a0x7).wf = true) (w0x8 : (Lit.int .u16 a0x8).wf = true) (w0x9 : (Lit.int .u16 a0x9).wf = true) (w1 : IsRow .u8 w a1 len1 cap1 z1) :
    Calls Try.prog 6 #[.agg #[.int .u16 a0x0, .int .u16 a0x1, .int .u32 a0x2, .int .u32 a0x3, .int .u8 a0x4, .int .u8 a0x5, .int .u8 a0x6, .int .u16 a0x7, .int .u16 a0x8, .int .u16 a0x9], .slice a1 len1 cap1] w fun e w' => e = .returned (.bool true) ∧ Below w.heap.size w w' := by
  have hc2 := row_low w1
  unfold maxLen at hc2
  obtain ⟨hd, ehd⟩ : ∃ hd : Hd, hd = ⟨a0x0, a0x1, a0x2, a0x3, a0x4, a0x5, a0x6, a0x7, a0x8, a0x9⟩ := ⟨_, rfl⟩
  have ok : HdOk hd := by subst ehd; exact ⟨bounds_u16 w0x0, bounds_u16 w0x1, bounds_u32 w0x2, bounds_u32 w0x3, bounds_u8 w0x4, bounds_u8 w0x5, bounds_u8 w0x6, bounds_u16 w0x7, bounds_u16 w0x8, bounds_u16 w0x9⟩
  obtain ⟨rfl, rfl, rfl, rfl, rfl, rfl, rfl, rfl, rfl, rfl⟩ : a0x0 = hd.src ∧ a0x1 = hd.dst ∧ a0x2 = hd.seq ∧ a0x3 = hd.ack ∧ a0x4 = hd.off ∧ a0x5 = hd.ace ∧ a0x6 = hd.fl ∧ a0x7 = hd.win ∧ a0x8 = hd.sum ∧ a0x9 = hd.urg := by subst ehd; exact ⟨rfl, rfl, rfl, rfl, rfl, rfl, rfl, rfl, rfl, rfl⟩
  obtain ⟨L, hn⟩ : ∃ n, n = min len1 60 := ⟨_, rfl⟩
  have hn1 : L ≤ len1 := by omega
  have hn2 : L ≤ 60 := by omega
  have HW := Lib.hid w1
  have HN := Lib.hid hn
  have OK := Lib.hid ok
  have A0 := At.new w (hdV hd) 25
  have L0 := new_alloc (new_refl w) (.cells #[.int .u16 hd.src, .int .u16 hd.dst, .int .u32 hd.seq, .int .u32 hd.ack, .int .u8 hd.off, .int .u8 hd.ace, .int .u8 hd.fl, .int .u16 hd.win, .int .u16 hd.sum, .int .u16 hd.urg] 25)
  clear w1 hn ok ehd w0x0 w0x1 w0x2 w0x3 w0x4 w0x5 w0x6 w0x7 w0x8 w0x9
  go_enter Try.func6, Try.ntmps6
  go_upto_region 1 with (fail)
  generalize w.alloc (.cells #[.int .u16 hd.src, .int .u16 hd.dst, .int .u32 hd.seq, .int .u32 hd.ack, .int .u8 hd.off, .int .u8 hd.ace, .int .u8 hd.fl, .int .u16 hd.win, .int .u16 hd.sum, .int .u16 hd.urg] 25) = V at A0 L0 ⊢
  go_cut [1] (fun v wx => v = .slice a1 L cap1 ∧ V = wx)
  case first =>
    by_cases h40 : len1 ≤ 60
    · obtain rfl : len1 = L := by have := HN.out; omega
      have k1 : (len1 : Int) ≤ 60 := by omega
      have k2 : (0 : Int) ≤ (len1 : Int) := by omega
      have k3 : (len1 : Int) ≤ (cap1 : Int) := by omega
      go_wp2_with fail
      go_meet
      case rel => exact ⟨rfl, rfl⟩
    · obtain rfl : L = 60 := by have := HN.out; omega
      have k1 : (60 : Int) < (len1 : Int) := by omega
      have k3 : (60 : Int) ≤ (cap1 : Int) := by omega
      go_wp2_with fail
      go_meet
      case rel => exact ⟨rfl, rfl⟩
  case rest =>
    obtain ⟨rfl, rfl⟩ := hcut
    obtain ⟨gl, hls⟩ := row_ls HW.out L hn1
    have hU := byt_row (k := L) HW.out
    have hl := row_take HW.out L hn1
    have hsrc := row_src HW.out L hn1
    have hcap : L ≤ cap1 := by omega
    have hcap2 : (20 : Int) ≤ (cap1 : Int) ∨ L < 20 := by omega
    generalize z1.take L = ds at hls hU hl hsrc
    have HV := Lib.hid (hls.kept L0)
    have HU := Lib.hid hU
    have HL := Lib.hid hl
    have HS := Lib.hid (hsrc.kept L0)
    have HC := Lib.hid hcap2
    clear hl hls hU hsrc HW HN hn1 hc2 hcap2
    have x0 := A0.cell 0 rfl
    have x1 := A0.cell 1 rfl
    have x2 := A0.cell 2 rfl
    have x3 := A0.cell 3 rfl
    have x4 := A0.cell 4 rfl
    have x5 := A0.cell 5 rfl
    have x6 := A0.cell 6 rfl
    have x7 := A0.cell 7 rfl
    have x8 := A0.cell 8 rfl
    have x9 := A0.cell 9 rfl
    rcases Classical.em (fitF hd) with hf | hf
    case' inl =>
      have HF := Lib.hid hf
      obtain ⟨M, hM⟩ : ∃ M, 20 + L = M := ⟨_, rfl⟩
      have hM1 : Hid ((hdF hd ++ ds).length = M) := Lib.hid (by rw [List.length_append, hdF_len, HL.out]; exact hM)
      have hM2 : Hid ((hdF hd).length + ds.length ≤ 1000000000) := Lib.hid (by rw [hdF_len, HL.out]; omega)
      have hM3 : 20 ≤ M := by omega
      have hM4 : M ≤ 100000 := by omega
      have hB : Hid (bytS (hdF hd ++ ds)) := Lib.hid (byt_app (hdF_byt OK.out hf) HU.out)
      have hI := Lib.hid (back_is OK.out hf ds)
      have hD := Lib.hid (back_dec OK.out hf ds)
      clear hf hM
      go_upto_region 4 with (first
        | (go_at_call 8; refine (encode_yes hd OK.out V HF.out).mono ?_; rintro e wa ⟨g1, k1, rfl, O1, B1⟩))
      clear x0 x1 x2 x3 x4 x5 x6 x7 x8 x9
      go_upto_region 5 with (first
        | (at_builtin; refine wp_catK elB (by rfl) _ _ (by rfl) V.heap.size _ (hdF hd) _ _ _ ds (by rfl) (by rfl) (HS.out.kept B1) O1 hM2.out B1.size ?_; intro v2 w2 O2 G2 hat2; have B2 := B1.trans (below_push O1 G2 B1.size); obtain ⟨g2, k2, rfl, _, _⟩ := O2.some hM1.out (by omega))
        | (go_at_call 11; refine (decode_yes g2 0 M k2 (hdF hd ++ ds) w2 (own_ls O2) hM1.out hB.out hM3 hM4 hI.out).mono ?_; rw [hD.out]; rintro e w3 ⟨rfl, B3⟩))
      have B4 := new_alloc (new_then B2 B3) (.cells #[.int .u16 hd.src, .int .u16 hd.dst, .int .u32 hd.seq, .int .u32 hd.ack, .int .u8 hd.off, .int .u8 hd.ace, .int .u8 hd.fl, .int .u16 hd.win, .int .u16 hd.sum, .int .u16 hd.urg] 25)
      have A1 := A0.kept B4
      have Y := At.new w3 (hdV hd) 25
      have BX := new_then L0 B4
      have V1 := Lib.hid (HV.out.kept B4)
      generalize w3.alloc (.cells #[.int .u16 hd.src, .int .u16 hd.dst, .int .u32 hd.seq, .int .u32 hd.ack, .int .u8 hd.off, .int .u8 hd.ace, .int .u8 hd.fl, .int .u16 hd.win, .int .u16 hd.sum, .int .u16 hd.urg] 25) = X at A1 Y B4 BX V1 ⊢
      have hneq := neqH hd hd
      have hsame := same_refl hd
      have x0 := A1.cell 0 rfl
      have x1 := A1.cell 1 rfl
      have x2 := A1.cell 2 rfl
      have x3 := A1.cell 3 rfl
      have x4 := A1.cell 4 rfl
      have x5 := A1.cell 5 rfl
      have x6 := A1.cell 6 rfl
      have x7 := A1.cell 7 rfl
      have x8 := A1.cell 8 rfl
      have x9 := A1.cell 9 rfl
      have y0 := Y.cell 0 rfl
      have y1 := Y.cell 1 rfl
      have y2 := Y.cell 2 rfl
      have y3 := Y.cell 3 rfl
      have y4 := Y.cell 4 rfl
      have y5 := Y.cell 5 rfl
      have y6 := Y.cell 6 rfl
      have y7 := Y.cell 7 rfl
      have y8 := Y.cell 8 rfl
      have y9 := Y.cell 9 rfl
      clear Y A1 A0 B1 B2 B3 B4 O1 O2 G2 hat2 L0 HV HS
      go_upto_region 7 with (fail)
      clear x0 x1 x2 x3 x4 x5 x6 x7 x8 x9 y0 y1 y2 y3 y4 y5 y6 y7 y8 y9 hneq hsame HF hM1 hM2 hM3 hM4 hB hI hD
    case' inr =>
      have HF := Lib.hid hf
      clear hf
      go_upto_region 7 with (first
        | (go_at_call 8; refine (encode_no hd OK.out V HF.out).mono ?_; rintro e X ⟨rfl, B1⟩))
      have BX := new_then L0 B1
      have V1 := Lib.hid (HV.out.kept B1)
      clear x0 x1 x2 x3 x4 x5 x6 x7 x8 x9 HF B1 A0 L0 HV HS
    all_goals
      by_cases hl : L < 20
      · go_wp2_with (first
          | (go_at_call 11; refine (decode_short a1 L cap1 X hl).mono ?_; rintro e w4 ⟨rfl, B5⟩)
          | (go_at_call 10; refine (works11_any _).mono ?_; rintro e w6 ⟨rfl, B6⟩))
        go_ret
        exact ⟨rfl, new_then BX (new_then (new_alloc B5 _) B6)⟩
      · obtain ⟨off, rfl⟩ : ∃ off, a1 = some ⟨gl, off, none⟩ := by
          rcases V1.out with h | ⟨off, h, _⟩
          · have := HL.out; rw [h] at this; simp at this; omega
          · exact ⟨off, h⟩
        have hl1 : 20 ≤ L := by omega
        have hl2 : L ≤ 100000 := by omega
        by_cases hi : isF ds
        · have HI := Lib.hid hi
          obtain ⟨p1, p2, p3⟩ := dec_back HU.out (by rw [HL.out]; exact hl1) hi
          have P1 := Lib.hid p1
          have P2 := Lib.hid p2
          have P3 := Lib.hid p3
          have P4 : Hid ((ds.take 20).length = 20) := Lib.hid (by rw [List.length_take, HL.out]; omega)
          have V2 := Lib.hid (ls_take V1.out 20)
          have c20 : (20 : Int) ≤ (cap1 : Int) := by omega
          have l20 : ¬ (L : Int) < 20 := by omega
          clear p1 p2 p3 hi hl
          go_upto_region 10 with (first
            | (go_at_call 11; refine (decode_yes gl off L cap1 ds X V1.out HL.out HU.out hl1 hl2 HI.out).mono ?_; rintro e w4 ⟨rfl, B5⟩)
            | (go_at_call 8; refine (encode_yes (decF ds) P1.out _ P2.out).mono ?_; rintro e w5 ⟨g5, k5, rfl, O5, B6⟩))
          have B7 := new_then (new_alloc B5 _) B6
          have BY := new_then BX B7
          have tx : ∀ n, (convert 26 9 (.slice (some ⟨g5, 0, none⟩) 20 k5)).run Try.prog (w5.drewN n) = .ok (.string (strOfNums (ds.take 20))) (w5.drewN n) := by
            intro n
            have := text_own (O5.draw n)
            rw [P3.out] at this
            exact this
          have ty : ∀ n, (convert 26 9 (.slice (some ⟨gl, off, none⟩) 20 cap1)).run Try.prog (w5.drewN n) = .ok (.string (strOfNums (ds.take 20))) (w5.drewN n) := fun n => text_ls ((V2.out.kept B7).draw n) P4.out
          clear B5 B6 B7 O5 V1 V2 P1 P2 P3 P4 HI BX
          go_quiet (fail)
          go_wp2_with (first
            | (go_at_call 10; refine (works11_any _).mono ?_; rintro e w6 ⟨rfl, B6⟩))
          go_ret
          exact ⟨rfl, new_then (new_draw BY _) B6⟩
        · go_wp2_with (first
            | (go_at_call 11; refine (decode_not gl off L cap1 ds X V1.out HL.out HU.out hl1 hl2 hi).mono ?_; rintro e w4 ⟨rfl, B5⟩)
            | (go_at_call 10; refine (works11_any _).mono ?_; rintro e w6 ⟨rfl, B6⟩))
          go_ret
          exact ⟨rfl, new_then BX (new_then (new_alloc B5 _) B6)⟩

set_option maxRecDepth 100000 in
theorem lifted (os : Os) (started : os.Started) (H : Type) (enc : TypeId × Value → H) :
    ReturnsInHanded {} Try.checked os 6 .any (Rows.flagsBackSpec.pre6 enc Try.prog Try.f6 Rows.flagsBackRow.domain false) (Rows.flagsBackSpec.post enc Try.prog Try.f6 false true false false) := by
  refine returnsInHanded_of_change (C := Try.checked) own started (by kernel_rfl) Try.func6
    (ChangeSpec.witness6 (enc := enc) (C := Try.checked) false ⟨#[], #[.agg #[.int .u16 0, .int .u16 0, .int .u32 0, .int .u32 0, .int .u8 0, .int .u8 0, .int .u8 0, .int .u16 0, .int .u16 0, .int .u16 0], .slice none 0 0], []⟩ 8 (by kernel_rfl) (by kernel_rfl) (by kernel_rfl) (by kernel_rfl)) ?_
  intro W base args ds gs before hval0 hW hcnd _
  have hval : ∀ (j : Nat) t v, Try.f6.params[j]? = some t → args[j]? = some v → Value.okWide Try.prog W .any base t v := hval0
  have hW' := hW
  obtain ⟨p, q, hA0, hV, rfl, hfz, hnd⟩ := hW
  have hA : DataW.TrodAll enc Try.prog W 0 (fun _ => true) true Try.f6.params.toList args.toList ds p := hA0
  rw [Try.params6] at hA hval
  obtain ⟨v0, vs0, d0, ds0, p0, q0, hargs, rfl, rfl, h0, r0⟩ := trodAll_cons hA
  obtain ⟨v1, vs1, d1, ds1, p1, q1, rfl, rfl, rfl, h1, r1⟩ := trodAll_cons r0
  obtain ⟨rfl, rfl, rfl⟩ := trodAll_nil r1
  obtain rfl : args = #[v0, v1] := by cases args; simp_all
  obtain ⟨rfl, rfl⟩ := trodVars_none hV
  have k0 := h0
  have lt0 : ∀ x ∈ p0, x.block < W.heap.size := by obtain ⟨m, hm⟩ := k0; exact DataW.trod_lt m _ _ _ hm
  obtain ⟨cs0, rfl, l0, L0⟩ := flat_of (n := 10) (ls := [(0, .inl .u16), (1, .inl .u16), (2, .inl .u32), (3, .inl .u32), (4, .inl .u8), (5, .inl .u8), (6, .inl .u8), (7, .inl .u16), (8, .inl .u16), (9, .inl .u16)]) (by kernel_rfl) (by kernel_rfl) (agg_of_struct Try.underlying25 (hval 0 25 v0 rfl rfl)) h0
  obtain ⟨a0x0, e0x0, w0x0⟩ := leaf_int (L0 (0, .inl .u16) (by simp))
  obtain ⟨a0x1, e0x1, w0x1⟩ := leaf_int (L0 (1, .inl .u16) (by simp))
  obtain ⟨a0x2, e0x2, w0x2⟩ := leaf_int (L0 (2, .inl .u32) (by simp))
  obtain ⟨a0x3, e0x3, w0x3⟩ := leaf_int (L0 (3, .inl .u32) (by simp))
  obtain ⟨a0x4, e0x4, w0x4⟩ := leaf_int (L0 (4, .inl .u8) (by simp))
  obtain ⟨a0x5, e0x5, w0x5⟩ := leaf_int (L0 (5, .inl .u8) (by simp))
  obtain ⟨a0x6, e0x6, w0x6⟩ := leaf_int (L0 (6, .inl .u8) (by simp))
  obtain ⟨a0x7, e0x7, w0x7⟩ := leaf_int (L0 (7, .inl .u16) (by simp))
  obtain ⟨a0x8, e0x8, w0x8⟩ := leaf_int (L0 (8, .inl .u16) (by simp))
  obtain ⟨a0x9, e0x9, w0x9⟩ := leaf_int (L0 (9, .inl .u16) (by simp))
  obtain rfl : cs0 = [.int .u16 a0x0, .int .u16 a0x1, .int .u32 a0x2, .int .u32 a0x3, .int .u8 a0x4, .int .u8 a0x5, .int .u8 a0x6, .int .u16 a0x7, .int .u16 a0x8, .int .u16 a0x9] := list_is l0 rfl (by intro i hi; match i, hi with | 0, _ => exact e0x0 | 1, _ => exact e0x1 | 2, _ => exact e0x2 | 3, _ => exact e0x3 | 4, _ => exact e0x4 | 5, _ => exact e0x5 | 6, _ => exact e0x6 | 7, _ => exact e0x7 | 8, _ => exact e0x8 | 9, _ => exact e0x9)
  have k1 := h1
  have lt1 : ∀ x ∈ p1, x.block < W.heap.size := by obtain ⟨m, hm⟩ := k1; exact DataW.trod_lt m _ _ _ hm
  obtain ⟨a1, len1, cap1, rfl⟩ := okWide_slice Try.underlying26 (hval 1 26 v1 rfl rfl)
  obtain ⟨z1, w1⟩ := isRow_of Try.underlying26 Try.underlying5 (by kernel_rfl) h1
  clear hA0 hval0
  refine (walk a0x0 a0x1 a0x2 a0x3 a0x4 a0x5 a0x6 a0x7 a0x8 a0x9 a1 len1 cap1 z1 W w0x0 w0x1 w0x2 w0x3 w0x4 w0x5 w0x6 w0x7 w0x8 w0x9 w1).mono fun e W' ⟨he, bel⟩ => ?_
  subst he
  exact ⟨_, rfl, _, _, _, [], _, [], hW', trodAll_mk1 (shut_bool Try.underlying4 _), (trodAll_cons_mk (Below.trod laidOut (by kernel_rfl) (of_decide_eq_true (by kernel_rfl)) k0 bel lt0) (trodAll_cons_mk (Below.trod laidOut (by kernel_rfl) (of_decide_eq_true (by kernel_rfl)) k1 bel lt1) trodAll_mk0)), rfl, bel.frame _, fun h => by cases h⟩

theorem over : Rows.flagsBackRow.holds Try.pinned (OpenSpec.ofChange Rows.flagsBackSpec) :=
  OpenClaim.holds_of_wide 6 Try.f6 rfl rfl rfl rfl rfl rfl rfl ⟨rfl, rfl, rfl, rfl, rfl⟩ rfl rfl rfl rfl rfl (by kernel_rfl) Try.func6 (by kernel_rfl)
    (of_decide_eq_true (by kernel_rfl)) (by unfold Func.isWrapper; first | (rw [if_pos (by decide +kernel)]; kernel_rfl) | (rw [if_neg (by decide +kernel)]; exact ⟨rfl, rfl⟩))
    (fun os started H enc _ => lifted os started H enc)
end flagsBack
theorem flagsBack_holds : Rows.FlagsBackSaid := flagsBack.over
end Go.Proofs.Ytfoaaoigkdbjmaa
