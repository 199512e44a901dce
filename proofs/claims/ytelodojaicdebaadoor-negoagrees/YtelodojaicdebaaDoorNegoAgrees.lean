/- For every two ints, kept between 0 and 2, what one end wants and what the other one is able of, and every byte, taken modulo 4 for the code with which the question came: nego.Reply of nego.Ask and nego.Settle of its answer come to the same mode, the lesser one of both, and of the mode 2 Settle tells the code; and the chapter's example holds: NegoAgrees returns true and changes nothing. Condition (the card ties it to the program's text): the table of three bits of package nego holds, when the call begins, what its initialiser lays. -/
import Derived.Test.YtelodojaicdebaaDoorKit
import Derived.Test.YtelodojaicdebaaDoorNegB
import Derived.Deep.DeepCutAuto
import Derived.Test.YtelodojaicdebaaDoorCards
import Derived.Test.YtelodojaicdebaaDoorTie
import Derived.SevenTiedAt
namespace Go.Proofs.YtelodojaicdebaaDoor
namespace negoAgrees
open Go.ChangeShapes Go.WideShapes Go.ChangeAt Go.RowKit
open Go.ChangeMaps (open_string shut_string)
set_option linter.unusedVariables false

def clp (n : Int) : Int := if n ≤ 0 then 0 else if n = 1 then 1 else 2
theorem clp_is (n : Int) : (n < 0 ∧ clp n = 0) ∨ (n = 0 ∧ clp n = 0) ∨ (n = 1 ∧ clp n = 1) ∨ (n = 2 ∧ clp n = 2) ∨ (2 < n ∧ clp n = 2) := by
  unfold clp
  obtain h | h | h | h | h : n < 0 ∨ n = 0 ∨ n = 1 ∨ n = 2 ∨ 2 < n := by omega
  · exact .inl ⟨h, by rw [if_pos (by omega)]⟩
  · exact .inr (.inl ⟨h, by rw [if_pos (by omega)]⟩)
  · exact .inr (.inr (.inl ⟨h, by rw [if_neg (by omega), if_pos h]⟩))
  · exact .inr (.inr (.inr (.inl ⟨h, by rw [if_neg (by omega), if_neg (by omega)]⟩)))
  · exact .inr (.inr (.inr (.inr ⟨h, by rw [if_neg (by omega), if_neg (by omega)]⟩)))
theorem agree_n : ∀ x : Nat, x < 3 → ∀ y : Nat, y < 3 → ∀ m : Nat, m < 4 → repM (askN (x : Int)) (y : Int) = min (x : Int) (y : Int) ∧ setM (x : Int) (repB (askN (x : Int)) (m : Int) (y : Int)) = min (x : Int) (y : Int) ∧ (min (x : Int) (y : Int) = 2 → setC (x : Int) (repB (askN (x : Int)) (m : Int) (y : Int)) = (m : Int)) := by decide +kernel
theorem own : ownKnob Tryd.prog.godebug = none := by kernel_rfl
theorem laidOut : laidOutB Tryd.prog = true := by kernel_rfl

set_option maxHeartbeats 4000000 in
set_option maxRecDepth 100000 in
theorem walk (a0 : Int) (a1 : Int) (a2 : Int) (w : World) (w0 : (Lit.int .i64 a0).wf = true) (w1 : (Lit.int .i64 a1).wf = true) (w2 : (Lit.int .u8 a2).wf = true) (L0 : ShkAt w) :
    Calls Tryd.prog 5 #[.int .i64 a0, .int .i64 a1, .int .u8 a2] w fun e w' => e = .returned (.bool true) ∧ Below w.heap.size w w' := by
  have b0 := bounds_i64 w0
  have b1 := bounds_i64 w1
  have b2 := bounds_u8 w2
  have HL := Lib.hid L0
  clear L0 w0 w1 w2
  go_enter Tryd.func5, Tryd.ntmps5
  go_upto_region 1 with (fail)
  go_cut [0, 1] (fun v u wx => v = .int .i64 (clp a0) ∧ u = .int .i64 (clp a1) ∧ w = wx)
  case first =>
    clear b0 b1 b2
    rcases clp_is a0 with ⟨h0, e0⟩ | ⟨h0, e0⟩ | ⟨h0, e0⟩ | ⟨h0, e0⟩ | ⟨h0, e0⟩
    all_goals
      rcases clp_is a1 with ⟨h1, e1⟩ | ⟨h1, e1⟩ | ⟨h1, e1⟩ | ⟨h1, e1⟩ | ⟨h1, e1⟩
      all_goals
        have E0 := Lib.hid e0
        have E1 := Lib.hid e1
        clear e0 e1
        go_wp2_with fail
        all_goals go_meet
        all_goals (case rel => exact ⟨by rw [E0.out], by rw [E1.out], rfl⟩)
  case rest =>
    obtain ⟨rfl, rfl, rfl⟩ := hcut
    obtain ⟨m, hm, hm4⟩ : ∃ m : Nat, a2 % 4 = (m : Int) ∧ m < 4 := ⟨(a2 % 4).toNat, by omega, by omega⟩
    have q0 : clp a0 = 0 ∨ clp a0 = 1 ∨ clp a0 = 2 := by rcases clp_is a0 with ⟨_, e⟩ | ⟨_, e⟩ | ⟨_, e⟩ | ⟨_, e⟩ | ⟨_, e⟩ <;> simp [e]
    have q1 : clp a1 = 0 ∨ clp a1 = 1 ∨ clp a1 = 2 := by rcases clp_is a1 with ⟨_, e⟩ | ⟨_, e⟩ | ⟨_, e⟩ | ⟨_, e⟩ | ⟨_, e⟩ <;> simp [e]
    have A : repM (askN (clp a0)) (clp a1) = min (clp a0) (clp a1) ∧ setM (clp a0) (repB (askN (clp a0)) (m : Int) (clp a1)) = min (clp a0) (clp a1) ∧ (min (clp a0) (clp a1) = 2 → setC (clp a0) (repB (askN (clp a0)) (m : Int) (clp a1)) = (m : Int)) := by
      rcases q0 with q0 | q0 | q0 <;> rcases q1 with q1 | q1 | q1 <;> rw [q0, q1]
      · exact agree_n 0 (by omega) 0 (by omega) m hm4
      · exact agree_n 0 (by omega) 1 (by omega) m hm4
      · exact agree_n 0 (by omega) 2 (by omega) m hm4
      · exact agree_n 1 (by omega) 0 (by omega) m hm4
      · exact agree_n 1 (by omega) 1 (by omega) m hm4
      · exact agree_n 1 (by omega) 2 (by omega) m hm4
      · exact agree_n 2 (by omega) 0 (by omega) m hm4
      · exact agree_n 2 (by omega) 1 (by omega) m hm4
      · have := agree_n 2 (by omega) 2 (by omega) m hm4
        exact this
    have z0 : (0 : Int) ≤ (m : Int) := by omega
    have z1 : (m : Int) ≤ 3 := by omega
    clear b0 b1 hm4
    generalize (m : Int) = M at *
    rcases q0 with q0 | q0 | q0
    all_goals
      rcases q1 with q1 | q1 | q1
      all_goals
        rw [q0, q1] at A
        simp [Int.min_def] at A
        have A1 := A.1
        first | (have A2 := A.2.1; have A3 := A.2.2; clear A) | (have A2 := A.2; clear A)
        go_wp2_with (first
          | (go_at_call 10; refine (ask_any _ _).mono ?_; rintro e w' ⟨rfl, rfl⟩)
          | (go_at_call 14; refine (reply_any _ _ _ _ HL.out).mono ?_; rintro e w' ⟨rfl, rfl⟩)
          | (go_at_call 16; refine (settle_any _ _ _ HL.out).mono ?_; rintro e w' ⟨rfl, rfl⟩)
          | (go_at_call 13; refine (works14_any _ HL.out).mono ?_; rintro e w' ⟨rfl, rfl⟩))
        all_goals go_ret
        all_goals exact ⟨rfl, new_refl _⟩

set_option maxRecDepth 100000 in
theorem lifted (os : Os) (started : os.Started) (H : Type) (enc : TypeId × Value → H) :
    ReturnsInHanded {} Tryd.checked os 5 .any (fun w args => (Rows.negoAgreesSpec.pre enc Tryd.prog Tryd.f5 [] false w args ∧ laidMetH Tryd.prog laidS w) ∧ sizedMet enc Tryd.prog Tryd.f5 (OpenSpec.ofChange Rows.negoAgreesSpec) false w args)
      (Rows.negoAgreesSpec.post enc Tryd.prog Tryd.f5 false true false false) := by
  refine returnsInHanded_of_change_and (C := Tryd.checked) (X := fun w _ => laidMetH Tryd.prog laidS w) (fun _ _ _ hh h => h.of_heap hh) own started (by kernel_rfl) Tryd.func5
    (ChangeSpec.witness_shaped (enc := enc) (C := Tryd.checked) (os := os) (X := fun w _ => laidMetH Tryd.prog laidS w) false (World.doorLaid Tryd.prog 400 os) #[.int .i64 0, .int .i64 0, .int .u8 0] 8 rfl (World.shaped_of_RefB (by kernel_rfl) (by kernel_rfl)) (by kernel_rfl) (by kernel_rfl) (by kernel_rfl) (door_metS os _)) ?_
  intro W base args ds gs before hval0 hW _ _ hL _
  have hval : ∀ (j : Nat) t v, Tryd.f5.params[j]? = some t → args[j]? = some v → Value.okWide Tryd.prog W .any base t v := hval0
  have hW' := hW
  obtain ⟨p, q, hA0, hV, rfl, hfz, hnd⟩ := hW
  have hA : DataW.TrodAll enc Tryd.prog W 0 (fun _ => true) true Tryd.f5.params.toList args.toList ds p := hA0
  rw [Tryd.params5] at hA hval
  obtain ⟨v0, vs0, d0, ds0, p0, q0, hargs, rfl, rfl, h0, r0⟩ := trodAll_cons hA
  obtain ⟨v1, vs1, d1, ds1, p1, q1, rfl, rfl, rfl, h1, r1⟩ := trodAll_cons r0
  obtain ⟨v2, vs2, d2, ds2, p2, q2, rfl, rfl, rfl, h2, r2⟩ := trodAll_cons r1
  obtain ⟨rfl, rfl, rfl⟩ := trodAll_nil r2
  obtain rfl : args = #[v0, v1, v2] := by cases args; simp_all
  obtain ⟨rfl, rfl⟩ := trodVars_none hV
  have k0 := h0
  have lt0 : ∀ x ∈ p0, x.block < W.heap.size := by obtain ⟨m, hm⟩ := k0; exact DataW.trod_lt m _ _ _ hm
  obtain ⟨a0, rfl, _, _, w0⟩ := open_int Tryd.underlying3 (hval 0 3 v0 rfl rfl) h0
  have k1 := h1
  have lt1 : ∀ x ∈ p1, x.block < W.heap.size := by obtain ⟨m, hm⟩ := k1; exact DataW.trod_lt m _ _ _ hm
  obtain ⟨a1, rfl, _, _, w1⟩ := open_int Tryd.underlying3 (hval 1 3 v1 rfl rfl) h1
  have k2 := h2
  have lt2 : ∀ x ∈ p2, x.block < W.heap.size := by obtain ⟨m, hm⟩ := k2; exact DataW.trod_lt m _ _ _ hm
  obtain ⟨a2, rfl, _, _, w2⟩ := open_int Tryd.underlying5 (hval 2 5 v2 rfl rfl) h2
  clear hA0 hval0
  refine (walk a0 a1 a2 W w0 w1 w2 (of_laidS hL)).mono fun e W' ⟨he, bel⟩ => ?_
  subst he
  exact ⟨_, rfl, _, _, _, [], _, [], hW', trodAll_mk1 (shut_bool Tryd.underlying4 _), (trodAll_cons_mk (Below.trod laidOut (by kernel_rfl) (of_decide_eq_true (by kernel_rfl)) k0 bel lt0) (trodAll_cons_mk (Below.trod laidOut (by kernel_rfl) (of_decide_eq_true (by kernel_rfl)) k1 bel lt1) (trodAll_cons_mk (Below.trod laidOut (by kernel_rfl) (of_decide_eq_true (by kernel_rfl)) k2 bel lt2) trodAll_mk0))), rfl, bel.frame _, fun h => by cases h⟩

theorem over : Rows.negoAgreesRow.holds Tryd.pinned (OpenSpec.ofChange Rows.negoAgreesSpec) :=
  OpenClaim.holds_of_wide 5 Tryd.f5 rfl rfl rfl rfl rfl rfl rfl ⟨rfl, rfl, rfl, rfl, rfl⟩ rfl rfl rfl rfl rfl (by kernel_rfl) Tryd.func5 (by kernel_rfl)
    (of_decide_eq_true (by kernel_rfl)) (by unfold Func.isWrapper; first | (rw [if_pos (by decide +kernel)]; kernel_rfl) | (rw [if_neg (by decide +kernel)]; exact ⟨rfl, rfl⟩))
    (fun os started H enc _ => lifted os started H enc)
end negoAgrees
theorem negoAgrees_holds : Rows.NegoAgreesCardSaid :=
  Claim7.holds_tied_plain_at .later [] [.data] true (true, "1cce9880357fee01d27f55aaeb0188981935c230aae2bff51ab242e2568d4adb") false
    negoAgrees.over (fun _ h => by cases h) (by kernel_rfl) (fun _ h => by cases h) negoAgrees_row_tie rfl ⟨rfl, rfl⟩ (by kernel_rfl) rfl
    (fun f fn hf hfn => by
      obtain rfl : f = 5 := Option.some.inj ((show Tryd.prog.funcNamed "leat/leatlaw14.NegoAgrees" = some 5 by kernel_rfl).symm.trans hf) |>.symm
      obtain rfl : fn = Tryd.f5 := (Option.some.inj (Tryd.func5.symm.trans hfn)).symm
      exact ⟨by kernel_rfl, fun j t ht => by
        rw [Tryd.params5] at ht
        have hm : t ∈ [3, 3, 5] := by simpa using Array.mem_of_getElem? ht
        have hall : ([3, 3, 5].all fun u => !Tryd.prog.wantsStandIn u) = true := by kernel_rfl
        exact (show Tryd.prog.wantsStandIn t = false by simpa using List.all_eq_true.1 hall t hm)⟩)
    (by kernel_rfl)
end Go.Proofs.YtelodojaicdebaaDoor
