/- For all bytes (the first sixty of any list), flags.Decode tells the header and the error of the document's own Decode, and the chapter's example holds: FlagsDecodes returns true and changes nothing. No conditions. -/
import Derived.Test.YtfoaaoigkdbjmaaKit
import Derived.Test.YtfoaaoigkdbjmaaFlgE
namespace Go.Proofs.Ytfoaaoigkdbjmaa
namespace flagsDecodes
open Go.ChangeShapes Go.WideShapes Go.ChangeAt Go.RowKit
open Go.ChangeMaps (open_string shut_string)
set_option linter.unusedVariables false

theorem own : ownKnob Try.prog.godebug = none := by kernel_rfl
theorem laidOut : laidOutB Try.prog = true := by kernel_rfl

set_option maxHeartbeats 4000000 in
set_option maxRecDepth 100000 in
theorem walk (a0 : Option Addr) (len0 cap0 : Nat) (z0 : List Int) (w : World) (w0 : IsRow .u8 w a0 len0 cap0 z0) :
    Calls Try.prog 4 #[.slice a0 len0 cap0] w fun e w' => e = .returned (.bool true) ∧ Below w.heap.size w w' := by
  have hc2 := row_low w0
  unfold maxLen at hc2
  obtain ⟨L, hn⟩ : ∃ n, n = min len0 60 := ⟨_, rfl⟩
  have hn1 : L ≤ len0 := by omega
  have hn2 : L ≤ 60 := by omega
  have HW := Lib.hid w0
  have HN := Lib.hid hn
  clear w0 hn
  go_enter Try.func4, Try.ntmps4
  go_upto_region 1 with (fail)
  go_cut [0] (fun v wx => v = .slice a0 L cap0 ∧ w = wx)
  case first =>
    by_cases h40 : len0 ≤ 60
    · obtain rfl : len0 = L := by have := HN.out; omega
      have k1 : (len0 : Int) ≤ 60 := by omega
      have k2 : (0 : Int) ≤ (len0 : Int) := by omega
      have k3 : (len0 : Int) ≤ (cap0 : Int) := by omega
      go_wp2_with fail
      go_meet
      case rel => exact ⟨rfl, rfl⟩
    · obtain rfl : L = 60 := by have := HN.out; omega
      have k1 : (60 : Int) < (len0 : Int) := by omega
      have k3 : (60 : Int) ≤ (cap0 : Int) := by omega
      go_wp2_with fail
      go_meet
      case rel => exact ⟨rfl, rfl⟩
  case rest =>
    obtain ⟨rfl, rfl⟩ := hcut
    obtain ⟨gl, hls⟩ := row_ls HW.out L hn1
    obtain ⟨hd, q, hD⟩ := decs_same a0 gl L cap0 (z0.take L) w hls (row_take HW.out L hn1) (byt_row HW.out) (by omega) (by omega)
    have HD := Lib.hid hD
    have he := eqlH hd hd
    have hs := same_refl hd
    clear hD hls HW HN hn1 hn2 hc2
    go_upto_region 4 with (first
      | (go_at_call 11; refine (HD.out w (new_refl w)).1.mono ?_; rintro e w1 ⟨rfl, B1⟩)
      | (go_at_call 12; refine (HD.out _ (new_alloc B1 _)).2.mono ?_; rintro e w2 ⟨rfl, B2⟩))
    have Y := ((At.new w1 (hdV hd) 25).kept B2).alloc (.cells #[.int .u16 hd.src, .int .u16 hd.dst, .int .u32 hd.seq, .int .u32 hd.ack, .int .u8 hd.off, .int .u8 hd.ace, .int .u8 hd.fl, .int .u16 hd.win, .int .u16 hd.sum, .int .u16 hd.urg] 25)
    have Z := At.new w2 (hdV hd) 25
    have L1 := new_alloc (new_then (new_alloc B1 (.cells #[.int .u16 hd.src, .int .u16 hd.dst, .int .u32 hd.seq, .int .u32 hd.ack, .int .u8 hd.off, .int .u8 hd.ace, .int .u8 hd.fl, .int .u16 hd.win, .int .u16 hd.sum, .int .u16 hd.urg] 25)) B2) (.cells #[.int .u16 hd.src, .int .u16 hd.dst, .int .u32 hd.seq, .int .u32 hd.ack, .int .u8 hd.off, .int .u8 hd.ace, .int .u8 hd.fl, .int .u16 hd.win, .int .u16 hd.sum, .int .u16 hd.urg] 25)
    generalize w2.alloc (.cells #[.int .u16 hd.src, .int .u16 hd.dst, .int .u32 hd.seq, .int .u32 hd.ack, .int .u8 hd.off, .int .u8 hd.ace, .int .u8 hd.fl, .int .u16 hd.win, .int .u16 hd.sum, .int .u16 hd.urg] 25) = X at Y Z L1 ⊢
    have y0 := Y.cell 0 rfl
    have z0 := Z.cell 0 rfl
    have y1 := Y.cell 1 rfl
    have z1 := Z.cell 1 rfl
    have y2 := Y.cell 2 rfl
    have z2 := Z.cell 2 rfl
    have y3 := Y.cell 3 rfl
    have z3 := Z.cell 3 rfl
    have y4 := Y.cell 4 rfl
    have z4 := Z.cell 4 rfl
    have y5 := Y.cell 5 rfl
    have z5 := Z.cell 5 rfl
    have y6 := Y.cell 6 rfl
    have z6 := Z.cell 6 rfl
    have y7 := Y.cell 7 rfl
    have z7 := Z.cell 7 rfl
    have y8 := Y.cell 8 rfl
    have z8 := Z.cell 8 rfl
    have y9 := Y.cell 9 rfl
    have z9 := Z.cell 9 rfl
    clear Y Z B1 B2 HD
    go_wp2_with (first
      | (go_at_call 10; refine (works11_any _).mono ?_; rintro e w3 ⟨rfl, B3⟩))
    go_ret
    exact ⟨rfl, new_then L1 B3⟩

set_option maxRecDepth 100000 in
theorem lifted (os : Os) (started : os.Started) (H : Type) (enc : TypeId × Value → H) :
    ReturnsInHanded {} Try.checked os 4 .any (Rows.flagsDecodesSpec.pre6 enc Try.prog Try.f4 Rows.flagsDecodesRow.domain false) (Rows.flagsDecodesSpec.post enc Try.prog Try.f4 false true false false) := by
  refine returnsInHanded_of_change (C := Try.checked) own started (by kernel_rfl) Try.func4
    (ChangeSpec.witness6 (enc := enc) (C := Try.checked) false ⟨#[], #[.slice none 0 0], []⟩ 8 (by kernel_rfl) (by kernel_rfl) (by kernel_rfl) (by kernel_rfl)) ?_
  intro W base args ds gs before hval0 hW hcnd _
  have hval : ∀ (j : Nat) t v, Try.f4.params[j]? = some t → args[j]? = some v → Value.okWide Try.prog W .any base t v := hval0
  have hW' := hW
  obtain ⟨p, q, hA0, hV, rfl, hfz, hnd⟩ := hW
  have hA : DataW.TrodAll enc Try.prog W 0 (fun _ => true) true Try.f4.params.toList args.toList ds p := hA0
  rw [Try.params4] at hA hval
  obtain ⟨v0, vs0, d0, ds0, p0, q0, hargs, rfl, rfl, h0, r0⟩ := trodAll_cons hA
  obtain ⟨rfl, rfl, rfl⟩ := trodAll_nil r0
  obtain rfl : args = #[v0] := by cases args; simp_all
  obtain ⟨rfl, rfl⟩ := trodVars_none hV
  have k0 := h0
  have lt0 : ∀ x ∈ p0, x.block < W.heap.size := by obtain ⟨m, hm⟩ := k0; exact DataW.trod_lt m _ _ _ hm
  obtain ⟨a0, len0, cap0, rfl⟩ := okWide_slice Try.underlying26 (hval 0 26 v0 rfl rfl)
  obtain ⟨z0, w0⟩ := isRow_of Try.underlying26 Try.underlying5 (by kernel_rfl) h0
  clear hA0 hval0
  refine (walk a0 len0 cap0 z0 W w0).mono fun e W' ⟨he, bel⟩ => ?_
  subst he
  exact ⟨_, rfl, _, _, _, [], _, [], hW', trodAll_mk1 (shut_bool Try.underlying4 _), (trodAll_cons_mk (Below.trod laidOut (by kernel_rfl) (of_decide_eq_true (by kernel_rfl)) k0 bel lt0) trodAll_mk0), rfl, bel.frame _, fun h => by cases h⟩

theorem over : Rows.flagsDecodesRow.holds Try.pinned (OpenSpec.ofChange Rows.flagsDecodesSpec) :=
  OpenClaim.holds_of_wide 4 Try.f4 rfl rfl rfl rfl rfl rfl rfl ⟨rfl, rfl, rfl, rfl, rfl⟩ rfl rfl rfl rfl rfl (by kernel_rfl) Try.func4 (by kernel_rfl)
    (of_decide_eq_true (by kernel_rfl)) (by unfold Func.isWrapper; first | (rw [if_pos (by decide +kernel)]; kernel_rfl) | (rw [if_neg (by decide +kernel)]; exact ⟨rfl, rfl⟩))
    (fun os started H enc _ => lifted os started H enc)
end flagsDecodes
theorem flagsDecodes_holds : Rows.FlagsDecodesSaid := flagsDecodes.over
end Go.Proofs.Ytfoaaoigkdbjmaa
