/- For every int and every string, ecn.Parse answers a code and true if and only if the string is one of the document's four names, and then that name's code, else 0 and false; ecn.Name answers as the document's own Name does; and the chapter's examples hold: EcnNames returns true and changes nothing. Condition (the card ties it to the program's text): the table of names of package ecn holds, when the call begins, what its initialiser lays. -/
import Derived.Test.YtfibjimahkpabaaDoorKit
import Derived.Test.YtfibjimahkpabaaDoorEcnL
import Derived.Test.YtfibjimahkpabaaDoorCards
import Derived.Test.YtfibjimahkpabaaDoorTie
import Derived.SevenTiedAt
namespace Go.Proofs.YtfibjimahkpabaaDoor
namespace ecnNames
open Go.ChangeShapes Go.WideShapes Go.ChangeAt Go.RowKit
open Go.ChangeMaps (open_string shut_string)
set_option linter.unusedVariables false

theorem own : ownKnob Tryd.prog.godebug = none := by kernel_rfl
theorem laidOut : laidOutB Tryd.prog = true := by kernel_rfl

set_option maxHeartbeats 4000000 in
set_option maxRecDepth 100000 in
theorem walk (a0 : Int) (a1 : ByteArray) (w : World) (w0 : (Lit.int .i64 a0).wf = true) (w1 : a1.size ≤ maxLen) (L0 : NamesAt w) :
    Calls Tryd.prog 3 #[.int .i64 a0, .string a1] w fun e w' => e = .returned (.bool true) ∧ Below w.heap.size w w' := by
  have b0 := bounds_i64 w0
  clear w0
  have n01 : ((nameC 0).toList == (nameC 1).toList) = false := strNe (by decide)
  have n02 : ((nameC 0).toList == (nameC 2).toList) = false := strNe (by decide)
  have n03 : ((nameC 0).toList == (nameC 3).toList) = false := strNe (by decide)
  have n10 : ((nameC 1).toList == (nameC 0).toList) = false := strNe (by decide)
  have n12 : ((nameC 1).toList == (nameC 2).toList) = false := strNe (by decide)
  have n13 : ((nameC 1).toList == (nameC 3).toList) = false := strNe (by decide)
  have n20 : ((nameC 2).toList == (nameC 0).toList) = false := strNe (by decide)
  have n21 : ((nameC 2).toList == (nameC 1).toList) = false := strNe (by decide)
  have n23 : ((nameC 2).toList == (nameC 3).toList) = false := strNe (by decide)
  have n30 : ((nameC 3).toList == (nameC 0).toList) = false := strNe (by decide)
  have n31 : ((nameC 3).toList == (nameC 1).toList) = false := strNe (by decide)
  have n32 : ((nameC 3).toList == (nameC 2).toList) = false := strNe (by decide)
  have c5 : (a1 = nameC 0 ∧ a1.size = 3 ∧ parC a1 = 0 ∧ hasC a1 = true) ∨ (a1 = nameC 1 ∧ a1.size = 4 ∧ parC a1 = 1 ∧ hasC a1 = true) ∨ (a1 = nameC 2 ∧ a1.size = 4 ∧ parC a1 = 2 ∧ hasC a1 = true) ∨ (a1 = nameC 3 ∧ a1.size = 2 ∧ parC a1 = 3 ∧ hasC a1 = true) ∨ (((a1.toList == (nameC 0).toList) = false ∧ (a1.toList == (nameC 1).toList) = false ∧ (a1.toList == (nameC 2).toList) = false ∧ (a1.toList == (nameC 3).toList) = false) ∧ parC a1 = 0 ∧ hasC a1 = false) := by
    by_cases h0 : a1 = nameC 0
    · subst h0; exact .inl ⟨rfl, by decide, by decide, by decide⟩
    by_cases h1 : a1 = nameC 1
    · subst h1; exact .inr (.inl ⟨rfl, by decide, by decide, by decide⟩)
    by_cases h2 : a1 = nameC 2
    · subst h2; exact .inr (.inr (.inl ⟨rfl, by decide, by decide, by decide⟩))
    by_cases h3 : a1 = nameC 3
    · subst h3; exact .inr (.inr (.inr (.inl ⟨rfl, by decide, by decide, by decide⟩)))
    exact .inr (.inr (.inr (.inr ⟨⟨strNe h0, strNe h1, strNe h2, strNe h3⟩, by simp [parC, h0, h1, h2, h3], by simp [hasC, h0, h1, h2, h3]⟩)))
  have HL := Lib.hid L0
  clear L0
  rcases c5 with ⟨rfl, z, p, q⟩ | ⟨rfl, z, p, q⟩ | ⟨rfl, z, p, q⟩ | ⟨rfl, z, p, q⟩ | ⟨⟨h0, h1, h2, h3⟩, p, q⟩
  all_goals
    go_enter Tryd.func3, Tryd.ntmps3
    go_wp2_with (first
      | (go_at_call 5; refine (parse_any _ _ HL.out).mono ?_; rintro e w' ⟨rfl, rfl⟩)
      | (go_at_call 6; refine (refName_any _ _).mono ?_; rintro e w' ⟨rfl, rfl⟩)
      | (go_at_call 7; refine (ecnName_any _ _ HL.out).mono ?_; rintro e w' ⟨rfl, rfl⟩)
      | (go_at_call 8; refine (works09_any _).mono ?_; rintro e w' ⟨rfl, rfl⟩))
    all_goals go_ret
    all_goals exact ⟨rfl, new_refl w⟩

set_option maxRecDepth 100000 in
theorem lifted (os : Os) (started : os.Started) (H : Type) (enc : TypeId × Value → H) :
    ReturnsInHanded {} Tryd.checked os 3 .any (fun w args => (Rows.ecnNamesSpec.pre enc Tryd.prog Tryd.f3 [] false w args ∧ laidMetH Tryd.prog laidN w) ∧ sizedMet enc Tryd.prog Tryd.f3 (OpenSpec.ofChange Rows.ecnNamesSpec) false w args)
      (Rows.ecnNamesSpec.post enc Tryd.prog Tryd.f3 false true false false) := by
  refine returnsInHanded_of_change_and (C := Tryd.checked) (X := fun w _ => laidMetH Tryd.prog laidN w) (fun _ _ _ hh h => h.of_heap hh) own started (by kernel_rfl) Tryd.func3
    (ChangeSpec.witness_shaped (enc := enc) (C := Tryd.checked) (os := os) (X := fun w _ => laidMetH Tryd.prog laidN w) false (World.doorLaid Tryd.prog 400 os) #[.int .i64 0, .string ByteArray.empty] 8 rfl (World.shaped_of_RefB (by kernel_rfl) (by kernel_rfl)) (by kernel_rfl) (by kernel_rfl) (by kernel_rfl) (door_met os _)) ?_
  intro W base args ds gs before hval0 hW _ _ hL _
  have hval : ∀ (j : Nat) t v, Tryd.f3.params[j]? = some t → args[j]? = some v → Value.okWide Tryd.prog W .any base t v := hval0
  have hW' := hW
  obtain ⟨p, q, hA0, hV, rfl, hfz, hnd⟩ := hW
  have hA : DataW.TrodAll enc Tryd.prog W 0 (fun _ => true) true Tryd.f3.params.toList args.toList ds p := hA0
  rw [Tryd.params3] at hA hval
  obtain ⟨v0, vs0, d0, ds0, p0, q0, hargs, rfl, rfl, h0, r0⟩ := trodAll_cons hA
  obtain ⟨v1, vs1, d1, ds1, p1, q1, rfl, rfl, rfl, h1, r1⟩ := trodAll_cons r0
  obtain ⟨rfl, rfl, rfl⟩ := trodAll_nil r1
  obtain rfl : args = #[v0, v1] := by cases args; simp_all
  obtain ⟨rfl, rfl⟩ := trodVars_none hV
  have k0 := h0
  have lt0 : ∀ x ∈ p0, x.block < W.heap.size := by obtain ⟨m, hm⟩ := k0; exact DataW.trod_lt m _ _ _ hm
  obtain ⟨a0, rfl, _, _, w0⟩ := open_int Tryd.underlying3 (hval 0 3 v0 rfl rfl) h0
  have k1 := h1
  have lt1 : ∀ x ∈ p1, x.block < W.heap.size := by obtain ⟨m, hm⟩ := k1; exact DataW.trod_lt m _ _ _ hm
  obtain ⟨a1, rfl, _, _, w1⟩ := open_string Tryd.underlying9 (hval 1 9 v1 rfl rfl) h1
  clear hA0 hval0
  refine (walk a0 a1 W w0 w1 (of_laid hL)).mono fun e W' ⟨he, bel⟩ => ?_
  subst he
  exact ⟨_, rfl, _, _, _, [], _, [], hW', trodAll_mk1 (shut_bool Tryd.underlying4 _), (trodAll_cons_mk (Below.trod laidOut (by kernel_rfl) (of_decide_eq_true (by kernel_rfl)) k0 bel lt0) (trodAll_cons_mk (Below.trod laidOut (by kernel_rfl) (of_decide_eq_true (by kernel_rfl)) k1 bel lt1) trodAll_mk0)), rfl, bel.frame _, fun h => by cases h⟩

theorem over : Rows.ecnNamesRow.holds Tryd.pinned (OpenSpec.ofChange Rows.ecnNamesSpec) :=
  OpenClaim.holds_of_wide 3 Tryd.f3 rfl rfl rfl rfl rfl rfl rfl ⟨rfl, rfl, rfl, rfl, rfl⟩ rfl rfl rfl rfl rfl (by kernel_rfl) Tryd.func3 (by kernel_rfl)
    (of_decide_eq_true (by kernel_rfl)) (by unfold Func.isWrapper; first | (rw [if_pos (by decide +kernel)]; kernel_rfl) | (rw [if_neg (by decide +kernel)]; exact ⟨rfl, rfl⟩))
    (fun os started H enc _ => lifted os started H enc)
end ecnNames
theorem ecnNames_holds : Rows.EcnNamesCardSaid :=
  Claim7.holds_tied_plain_at .later [] [.data] true (true, "04c61951299e295195bb54aaaf1754e343ae31181a18016d1e8a4d697fa3af4c") false
    ecnNames.over (fun _ h => by cases h) (by kernel_rfl) (fun _ h => by cases h) ecnNames_row_tie rfl ⟨rfl, rfl⟩ (by kernel_rfl) rfl
    (fun f fn hf hfn => by
      obtain rfl : f = 3 := Option.some.inj ((show Tryd.prog.funcNamed "leat/leatlaw09.EcnNames" = some 3 by kernel_rfl).symm.trans hf) |>.symm
      obtain rfl : fn = Tryd.f3 := (Option.some.inj (Tryd.func3.symm.trans hfn)).symm
      exact ⟨by kernel_rfl, fun j t ht => by
        rw [Tryd.params3] at ht
        have hm : t ∈ [3, 9] := by simpa using Array.mem_of_getElem? ht
        have hall : ([3, 9].all fun u => !Tryd.prog.wantsStandIn u) = true := by kernel_rfl
        exact (show Tryd.prog.wantsStandIn t = false by simpa using List.all_eq_true.1 hall t hm)⟩)
    (by kernel_rfl)
end Go.Proofs.YtfibjimahkpabaaDoor
