/- For every int32 last, uint32 by and uint8 bits: with n the bits modulo 60 and 2 more, and step by modulo half a round of n bits, serial.Unwrap finds last + step again by its lowest bits, serial.Diff tells step, serial.Newer whether it is above 0, and never both ways: SerialBack returns true and changes nothing. No conditions. -/
import Derived.Test.YtellpppkbbbadaaKit
import Derived.Test.YtellpppkbbbadaaWorks03
namespace Go.Proofs.Ytellpppkbbbadaa
namespace serialBack
open Go.ChangeShapes Go.WideShapes Go.ChangeAt Go.RowKit
open Go.ChangeMaps (open_string shut_string)
set_option linter.unusedVariables false

theorem hf_at (k : Nat) (h : k < 60) : 2 ^ (k + 1) = hf ((k : Int) + 2) := by
  unfold hf wid
  rw [if_neg (by omega), if_neg (by omega), show ((k : Int) + 2).toNat - 1 = k + 1 by omega]
theorem near_at (a : Int) (h : -2147483648 ≤ a ∧ a ≤ 2147483647) : near a = a := by unfold near; split <;> (try split) <;> omega
theorem dif_up (a s n : Int) (h : 0 ≤ s ∧ s < hf n) : dif (a + s) a n = s := dif_only _ _ _ _ 0 (by omega) (by omega)
theorem dif_dn (a s n : Int) (h : 0 ≤ s ∧ s < hf n) : dif a (a + s) n = -s := by
  by_cases h0 : s = 0
  · subst h0; simpa using dif_up a 0 n h
  · exact dif_only _ _ _ _ 0 (by omega) (by omega)
theorem unwrap_back (a s n : Int) (w : World) (ha : -2147483648 ≤ a ∧ a ≤ 2147483647) (hs : 0 ≤ s ∧ s < hf n) (hn : -9223372036854775808 ≤ n ∧ n ≤ 9223372036854775807) :
    Calls Try.prog 17 #[.int .i64 a, .int .u64 (IntKind.u64.wrap (a + s)), .int .i64 n] w fun e w' => e = .returned (.int .i64 (a + s)) ∧ Below w.heap.size w w' := by
  rw [IntKind.wrap_u64]
  refine (unwrap_any a _ n w (by omega) (by omega) hn).mono ?_
  rintro e w' ⟨rfl, B⟩
  rw [near_at a ha, dif_64l, dif_up a s n hs]
  exact ⟨rfl, B⟩
theorem diff_back (a s n : Int) (w : World) (hs : 0 ≤ s ∧ s < hf n) (hn : -9223372036854775808 ≤ n ∧ n ≤ 9223372036854775807) :
    Calls Try.prog 15 #[.int .u64 (IntKind.u64.wrap (a + s)), .int .u64 (IntKind.u64.wrap a), .int .i64 n] w fun e w' => e = .returned (.int .i64 s) ∧ Below w.heap.size w w' := by
  simp only [IntKind.wrap_u64]
  refine (diff_any _ _ n w (by omega) (by omega) hn).mono ?_
  rintro e w' ⟨rfl, B⟩
  rw [dif_64, dif_up a s n hs]
  exact ⟨rfl, B⟩
theorem newer_back (a s n : Int) (w : World) (hs : 0 ≤ s ∧ s < hf n) (hn : -9223372036854775808 ≤ n ∧ n ≤ 9223372036854775807) :
    Calls Try.prog 16 #[.int .u64 (IntKind.u64.wrap (a + s)), .int .u64 (IntKind.u64.wrap a), .int .i64 n] w fun e w' => e = .returned (.bool (decide (0 < s))) ∧ Below w.heap.size w w' := by
  simp only [IntKind.wrap_u64]
  refine (newer_any _ _ n w (by omega) (by omega) hn).mono ?_
  rintro e w' ⟨rfl, B⟩
  rw [dif_64, dif_up a s n hs]
  exact ⟨rfl, B⟩
theorem older_back (a s n : Int) (w : World) (hs : 0 ≤ s ∧ s < hf n) (hn : -9223372036854775808 ≤ n ∧ n ≤ 9223372036854775807) :
    Calls Try.prog 16 #[.int .u64 (IntKind.u64.wrap a), .int .u64 (IntKind.u64.wrap (a + s)), .int .i64 n] w fun e w' => e = .returned (.bool false) ∧ Below w.heap.size w w' := by
  simp only [IntKind.wrap_u64]
  refine (newer_any _ _ n w (by omega) (by omega) hn).mono ?_
  rintro e w' ⟨rfl, B⟩
  rw [dif_64, dif_dn a s n hs]
  exact ⟨ret_bool (by simp; omega), B⟩
theorem own : ownKnob Try.prog.godebug = none := by kernel_rfl
theorem laidOut : laidOutB Try.prog = true := by kernel_rfl

set_option maxHeartbeats 4000000 in
set_option maxRecDepth 100000 in
theorem walk (a0 : Int) (a1 : Int) (a2 : Int) (w : World) (w0 : (Lit.int .i32 a0).wf = true) (w1 : (Lit.int .u32 a1).wf = true) (w2 : (Lit.int .u8 a2).wf = true) :
    Calls Try.prog 6 #[.int .i32 a0, .int .u32 a1, .int .u8 a2] w fun e w' => e = .returned (.bool true) ∧ Below w.heap.size w w' := by
  have b0 := bounds_i32 w0
  have b1 := bounds_u32 w1
  have b2 := bounds_u8 w2
  clear w0 w1 w2
  obtain ⟨k, hk⟩ : ∃ k : Nat, a2 % 60 = k := ⟨(a2 % 60).toNat, by omega⟩
  have hk2 : k < 60 := by omega
  have hh := hf_bd ((k : Int) + 2)
  obtain ⟨s, es⟩ : ∃ s, a1 % hf ((k : Int) + 2) = s := ⟨_, rfl⟩
  have s0 : 0 ≤ s := by rw [← es]; exact Int.emod_nonneg _ (by omega)
  have s1 : s < hf ((k : Int) + 2) := by rw [← es]; exact Int.emod_lt_of_pos _ (by omega)
  have H : wrap64 (2 ^ (k + 1)) = hf ((k : Int) + 2) := by rw [hf_at k hk2]; unfold wrap64; omega
  have L := new_refl w
  by_cases c : s = 0
  · have c1 : s ≤ 0 := by omega
    have c2 : (s == 0) = true := by simp [c]
    have c3 : decide (0 < s) = false := by simp; omega
    clear c
    go_enter Try.func6, Try.ntmps6
    go_wp2_with (first | (go_at_call 17; ((with_reducible refine (unwrap_back _ _ _ _ (by omega) (by omega) (by omega)).mono ?_); rintro e w1 ⟨rfl, B⟩; replace L := new_then L B)) | (go_at_call 15; ((with_reducible refine (diff_back _ _ _ _ (by omega) (by omega)).mono ?_); rintro e w1 ⟨rfl, B⟩; replace L := new_then L B)) | (go_at_call 16; ((with_reducible refine (newer_back _ _ _ _ (by omega) (by omega)).mono ?_); rintro e w1 ⟨rfl, B⟩; replace L := new_then L B)) | (go_at_call 13; refine (works03_any _).mono ?_; rintro e w' ⟨rfl, B⟩; replace L := new_then L B))
    go_ret
    exact ⟨rfl, L⟩
  · have c1 : 0 < s := by omega
    have c2 : (s == 0) = false := by simp [c]
    have c3 : decide (0 < s) = true := by simp; omega
    clear c
    go_enter Try.func6, Try.ntmps6
    go_wp2_with (first | (go_at_call 17; ((with_reducible refine (unwrap_back _ _ _ _ (by omega) (by omega) (by omega)).mono ?_); rintro e w1 ⟨rfl, B⟩; replace L := new_then L B)) | (go_at_call 15; ((with_reducible refine (diff_back _ _ _ _ (by omega) (by omega)).mono ?_); rintro e w1 ⟨rfl, B⟩; replace L := new_then L B)) | (go_at_call 16; (((with_reducible refine (newer_back a0 s _ _ (by omega) (by omega)).mono ?_); rintro e w1 ⟨rfl, B⟩; replace L := new_then L B))) | (go_at_call 16; (((with_reducible refine (older_back a0 s _ _ (by omega) (by omega)).mono ?_); rintro e w1 ⟨rfl, B⟩; replace L := new_then L B))) | (go_at_call 13; refine (works03_any _).mono ?_; rintro e w' ⟨rfl, B⟩; replace L := new_then L B))
    go_ret
    exact ⟨rfl, L⟩

set_option maxRecDepth 100000 in
theorem lifted (os : Os) (started : os.Started) (H : Type) (enc : TypeId × Value → H) :
    ReturnsInHanded {} Try.checked os 6 .any (Rows.serialBackSpec.pre6 enc Try.prog Try.f6 Rows.serialBackRow.domain false) (Rows.serialBackSpec.post enc Try.prog Try.f6 false true false false) := by
  refine returnsInHanded_of_change (C := Try.checked) own started (by kernel_rfl) Try.func6
    (ChangeSpec.witness6 (enc := enc) (C := Try.checked) false ⟨#[], #[.int .i32 0, .int .u32 0, .int .u8 0], []⟩ 8 (by kernel_rfl) (by kernel_rfl) (by kernel_rfl) (by kernel_rfl)) ?_
  intro W base args ds gs before hval0 hW hcnd _
  have hval : ∀ (j : Nat) t v, Try.f6.params[j]? = some t → args[j]? = some v → Value.okWide Try.prog W .any base t v := hval0
  have hW' := hW
  obtain ⟨p, q, hA0, hV, rfl, hfz, hnd⟩ := hW
  have hA : DataW.TrodAll enc Try.prog W 0 (fun _ => true) true Try.f6.params.toList args.toList ds p := hA0
  rw [Try.params6] at hA hval
  obtain ⟨v0, vs0, d0, ds0, p0, q0, hargs, rfl, rfl, h0, r0⟩ := trodAll_cons hA
  obtain ⟨v1, vs1, d1, ds1, p1, q1, rfl, rfl, rfl, h1, r1⟩ := trodAll_cons r0
  obtain ⟨v2, vs2, d2, ds2, p2, q2, rfl, rfl, rfl, h2, r2⟩ := trodAll_cons r1
  obtain ⟨rfl, rfl, rfl⟩ := trodAll_nil r2
  obtain rfl : args = #[v0, v1, v2] := by cases args; simp_all
  obtain ⟨rfl, rfl⟩ := trodVars_none hV
  have k0 := h0
  have lt0 : ∀ x ∈ p0, x.block < W.heap.size := by obtain ⟨m, hm⟩ := k0; exact DataW.trod_lt m _ _ _ hm
  obtain ⟨a0, rfl, _, _, w0⟩ := open_int Try.underlying21 (hval 0 21 v0 rfl rfl) h0
  have k1 := h1
  have lt1 : ∀ x ∈ p1, x.block < W.heap.size := by obtain ⟨m, hm⟩ := k1; exact DataW.trod_lt m _ _ _ hm
  obtain ⟨a1, rfl, _, _, w1⟩ := open_int Try.underlying32 (hval 1 32 v1 rfl rfl) h1
  have k2 := h2
  have lt2 : ∀ x ∈ p2, x.block < W.heap.size := by obtain ⟨m, hm⟩ := k2; exact DataW.trod_lt m _ _ _ hm
  obtain ⟨a2, rfl, _, _, w2⟩ := open_int Try.underlying5 (hval 2 5 v2 rfl rfl) h2
  clear hA0 hval0
  refine (walk a0 a1 a2 W w0 w1 w2).mono fun e W' ⟨he, bel⟩ => ?_
  subst he
  exact ⟨_, rfl, _, _, _, [], _, [], hW', trodAll_mk1 (shut_bool Try.underlying4 _), (trodAll_cons_mk (Below.trod laidOut (by kernel_rfl) (of_decide_eq_true (by kernel_rfl)) k0 bel lt0) (trodAll_cons_mk (Below.trod laidOut (by kernel_rfl) (of_decide_eq_true (by kernel_rfl)) k1 bel lt1) (trodAll_cons_mk (Below.trod laidOut (by kernel_rfl) (of_decide_eq_true (by kernel_rfl)) k2 bel lt2) trodAll_mk0))), rfl, bel.frame _, fun h => by cases h⟩

theorem over : Rows.serialBackRow.holds Try.pinned (OpenSpec.ofChange Rows.serialBackSpec) :=
  OpenClaim.holds_of_wide 6 Try.f6 rfl rfl rfl rfl rfl rfl rfl ⟨rfl, rfl, rfl, rfl, rfl⟩ rfl rfl rfl rfl rfl (by kernel_rfl) Try.func6 (by kernel_rfl)
    (of_decide_eq_true (by kernel_rfl)) (by unfold Func.isWrapper; first | (rw [if_pos (by decide +kernel)]; kernel_rfl) | (rw [if_neg (by decide +kernel)]; exact ⟨rfl, rfl⟩))
    (fun os started H enc _ => lifted os started H enc)
end serialBack
theorem serialBack_holds : Rows.SerialBackSaid := serialBack.over
end Go.Proofs.Ytellpppkbbbadaa
