/- For every byte flag and every text (its first sixty bytes), flags.Parse tells the flags, and whether the text is such, of the document's own Parse; flags.Text tells the letters of the document's own Text, and what it tells is parsed to the six flags of the byte; and the chapter's example holds: FlagsText returns true and changes nothing. No conditions. -/
import Derived.Test.YtfoaaoigkdbjmaaKit
import Derived.Test.YtfoaaoigkdbjmaaFlgK
namespace Go.Proofs.Ytfoaaoigkdbjmaa
namespace flagsText
open Go.ChangeShapes Go.WideShapes Go.ChangeAt Go.RowKit
open Go.ChangeMaps (open_string shut_string)
set_option linter.unusedVariables false

theorem tex_n : ∀ n : Nat, n < 256 → parF (teF (n : Int)) = some ((n : Int) % 64) := by decide +kernel
theorem tex_size (f : Int) : (teF f).size ≤ 100 := by
  unfold teF
  split
  · decide
  · have := (tx_size f).2.2.2.2.2.2; omega
theorem own : ownKnob Try.prog.godebug = none := by kernel_rfl
theorem laidOut : laidOutB Try.prog = true := by kernel_rfl

set_option maxHeartbeats 4000000 in
set_option maxRecDepth 100000 in
theorem walk (a0 : Int) (a1 : ByteArray) (w : World) (w0 : (Lit.int .u8 a0).wf = true) (w1 : a1.size ≤ maxLen) :
    Calls Try.prog 7 #[.int .u8 a0, .string a1] w fun e w' => e = .returned (.bool true) ∧ Below w.heap.size w w' := by
  unfold maxLen at w1
  have bf := bounds_u8 w0
  have hT := byteF (P := fun x => parF (teF x) = some (x % 64)) tex_n bf
  have HT := Lib.hid (text_any a0 w bf)
  have C1 := Lib.hid (fun w => text_any a0 w bf)
  have C2 := Lib.hid (fun w => refText_any a0 w bf)
  have C3 : Hid (∀ w, Calls Try.prog 16 #[.string (teF a0)] w (ParTo w (some (a0 % 64)))) := Lib.hid (fun w => by rw [← hT]; exact parse11_any (teF a0) w (tex_size a0))
  obtain ⟨b0, b1⟩ := bf
  clear w0 hT
  generalize teF a0 = T at HT C1 C2 C3
  go_enter Try.func7, Try.ntmps7
  go_upto_region 1 with (fail)
  go_cut [1] (fun v wx => (∃ s : ByteArray, v = .string s ∧ s.size ≤ 60) ∧ w = wx)
  case first =>
    by_cases h2 : a1.size ≤ 60
    · have s1 : (a1.size : Int) ≤ 60 := by omega
      have s2 : (0 : Int) ≤ (a1.size : Int) := by omega
      go_wp2_with fail
      go_meet
      case rel => exact ⟨⟨_, rfl, h2⟩, rfl⟩
    · have s1 : (60 : Int) < (a1.size : Int) := by omega
      go_wp2_with fail
      go_meet
      case rel => exact ⟨⟨_, rfl, by rw [ByteArray.size_extract]; omega⟩, rfl⟩
  case rest =>
    obtain ⟨⟨s, rfl, hs⟩, rfl⟩ := hcut
    have D1 := Lib.hid (fun w => parse11_any s w (by omega))
    have D2 := Lib.hid (fun w => refParse_any s w (by omega))
    obtain ⟨v, hv⟩ : ∃ v, rvF (parF s) = v := ⟨_, rfl⟩
    obtain ⟨q, hq⟩ : ∃ q, (parF s).isSome = q := ⟨_, rfl⟩
    unfold ParTo at D1 D2 C3
    rw [hv, hq] at D1 D2
    clear hv hq w1 HT
    go_upto_region 4 with (first
      | (go_at_call 16; refine (D1.out w).mono ?_; rintro e w1 ⟨rfl, B1⟩)
      | (go_at_call 17; refine (D2.out w1).mono ?_; rintro e w2 ⟨rfl, B2⟩))
    have L2 := new_then B1 B2
    clear D1 D2 B1 B2
    go_upto_region 5 with (first
      | (go_at_call 18; refine (C1.out w2).mono ?_; rintro e w3 ⟨rfl, B3⟩)
      | (go_at_call 16; refine (C3.out w3).mono ?_; rintro e w4 ⟨rfl, B4⟩))
    have L4 := new_then L2 (new_then B3 B4)
    have er : rvF (some (a0 % 64)) = a0 % 64 := rfl
    have eo : (some (a0 % 64)).isSome = true := rfl
    clear L2 B3 B4 C3
    go_wp2_with (first
      | (go_at_call 18; refine (C1.out w4).mono ?_; rintro e w5 ⟨rfl, B5⟩)
      | (go_at_call 19; refine (C2.out w5).mono ?_; rintro e w6 ⟨rfl, rfl⟩)
      | (go_at_call 10; refine (works11_any _).mono ?_; rintro e w7 ⟨rfl, B7⟩))
    go_ret
    exact ⟨rfl, new_then L4 (new_then B5 B7)⟩

set_option maxRecDepth 100000 in
theorem lifted (os : Os) (started : os.Started) (H : Type) (enc : TypeId × Value → H) :
    ReturnsInHanded {} Try.checked os 7 .any (Rows.flagsTextSpec.pre6 enc Try.prog Try.f7 Rows.flagsTextRow.domain false) (Rows.flagsTextSpec.post enc Try.prog Try.f7 false true false false) := by
  refine returnsInHanded_of_change (C := Try.checked) own started (by kernel_rfl) Try.func7
    (ChangeSpec.witness6 (enc := enc) (C := Try.checked) false ⟨#[], #[.int .u8 0, .string ByteArray.empty], []⟩ 8 (by kernel_rfl) (by kernel_rfl) (by kernel_rfl) (by kernel_rfl)) ?_
  intro W base args ds gs before hval0 hW hcnd _
  have hval : ∀ (j : Nat) t v, Try.f7.params[j]? = some t → args[j]? = some v → Value.okWide Try.prog W .any base t v := hval0
  have hW' := hW
  obtain ⟨p, q, hA0, hV, rfl, hfz, hnd⟩ := hW
  have hA : DataW.TrodAll enc Try.prog W 0 (fun _ => true) true Try.f7.params.toList args.toList ds p := hA0
  rw [Try.params7] at hA hval
  obtain ⟨v0, vs0, d0, ds0, p0, q0, hargs, rfl, rfl, h0, r0⟩ := trodAll_cons hA
  obtain ⟨v1, vs1, d1, ds1, p1, q1, rfl, rfl, rfl, h1, r1⟩ := trodAll_cons r0
  obtain ⟨rfl, rfl, rfl⟩ := trodAll_nil r1
  obtain rfl : args = #[v0, v1] := by cases args; simp_all
  obtain ⟨rfl, rfl⟩ := trodVars_none hV
  have k0 := h0
  have lt0 : ∀ x ∈ p0, x.block < W.heap.size := by obtain ⟨m, hm⟩ := k0; exact DataW.trod_lt m _ _ _ hm
  obtain ⟨a0, rfl, _, _, w0⟩ := open_int Try.underlying5 (hval 0 5 v0 rfl rfl) h0
  have k1 := h1
  have lt1 : ∀ x ∈ p1, x.block < W.heap.size := by obtain ⟨m, hm⟩ := k1; exact DataW.trod_lt m _ _ _ hm
  obtain ⟨a1, rfl, _, _, w1⟩ := open_string Try.underlying9 (hval 1 9 v1 rfl rfl) h1
  clear hA0 hval0
  refine (walk a0 a1 W w0 w1).mono fun e W' ⟨he, bel⟩ => ?_
  subst he
  exact ⟨_, rfl, _, _, _, [], _, [], hW', trodAll_mk1 (shut_bool Try.underlying4 _), (trodAll_cons_mk (Below.trod laidOut (by kernel_rfl) (of_decide_eq_true (by kernel_rfl)) k0 bel lt0) (trodAll_cons_mk (Below.trod laidOut (by kernel_rfl) (of_decide_eq_true (by kernel_rfl)) k1 bel lt1) trodAll_mk0)), rfl, bel.frame _, fun h => by cases h⟩

theorem over : Rows.flagsTextRow.holds Try.pinned (OpenSpec.ofChange Rows.flagsTextSpec) :=
  OpenClaim.holds_of_wide 7 Try.f7 rfl rfl rfl rfl rfl rfl rfl ⟨rfl, rfl, rfl, rfl, rfl⟩ rfl rfl rfl rfl rfl (by kernel_rfl) Try.func7 (by kernel_rfl)
    (of_decide_eq_true (by kernel_rfl)) (by unfold Func.isWrapper; first | (rw [if_pos (by decide +kernel)]; kernel_rfl) | (rw [if_neg (by decide +kernel)]; exact ⟨rfl, rfl⟩))
    (fun os started H enc _ => lifted os started H enc)
end flagsText
theorem flagsText_holds : Rows.FlagsTextSaid := flagsText.over
end Go.Proofs.Ytfoaaoigkdbjmaa
