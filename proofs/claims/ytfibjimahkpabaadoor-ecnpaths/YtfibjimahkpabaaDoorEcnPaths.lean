/- For every int and every list of bools, of the first sixty places: ecn.Path answers as the document's own Path does, each code behind a place is one that the first one may have become, ecn.Names tells the codes (and the first one beside Ect0) as the document's own Names does, and the chapter's examples hold: EcnPaths returns true and changes nothing. Condition (the card ties it to the program's text): the table of names of package ecn holds, when the call begins, what its initialiser lays. -/
import Derived.Test.YtfibjimahkpabaaDoorKit
import Derived.Test.YtfibjimahkpabaaDoorEcnL
import Derived.Test.YtfibjimahkpabaaDoorEcnD
import Derived.Deep.DeepCutAuto
import Derived.Deep.QuietTactic
import Derived.BigQuiet
import Derived.Test.YtfibjimahkpabaaDoorCards
import Derived.Test.YtfibjimahkpabaaDoorTie
import Derived.SevenTiedAt
namespace Go.Proofs.YtfibjimahkpabaaDoor
namespace ecnPaths
open Go.ChangeShapes Go.WideShapes Go.ChangeAt Go.RowKit
open Go.ChangeMaps (open_string shut_string)
set_option linter.unusedVariables false

theorem lsTwo (w : World) (x y : Int) (t : TypeId) : LsK .i64 (w.alloc (.cells #[.int .i64 x, .int .i64 y] t)) w.heap.size (some ⟨w.heap.size, 0, none⟩) [x, y] := by
  refine .inr ⟨0, rfl, fun i hi => ?_⟩
  have h := At.new w [.int .i64 x, .int .i64 y] t
  rw [Nat.zero_add]
  match i, hi with
  | 0, _ => exact h.cell 0 rfl
  | 1, _ => exact h.cell 1 rfl
theorem own_ls {w : World} {base n : Nat} {v : Value} {zs : List Int} (h : OwnK .i64 3 w base v zs) (hn : zs.length = n) : ∃ g A c, v = .slice A n c ∧ LsK .i64 w g A zs := by
  rcases h.form with ⟨h1, rfl⟩ | ⟨g, c, rfl⟩
  · subst hn; exact ⟨0, none, 0, h1, .inl rfl⟩
  · subst hn
    refine ⟨g, _, c, rfl, .inr ⟨0, rfl, fun i hi => ?_⟩⟩
    rw [Nat.zero_add]; exact h.cell hi
theorem ls_at {w : World} {g : Nat} {A : Option Addr} {c : Int} {ms : List Bool} {n k : Nat} (h : LsK .i64 w g A (pathC c ms n)) (hk : k < n) : ∃ off, A = some ⟨g, off, none⟩ ∧ w.cell? ⟨g, off + k, none⟩ = some (.int .i64 (codeAt c ms (k + 1))) := by
  have hl := pathC_len c ms n
  rcases h with h | ⟨off, rfl, h⟩
  · rw [h] at hl; simp at hl; omega
  · refine ⟨off, rfl, ?_⟩
    rw [h k (by omega), pathC_at c ms hk]
def PaI (w : World) (c : Int) (ms : List Bool) (n g1 g2 : Nat) (A1 A2 : Option Addr) (gh : Nat) (vi : Value) (wr : World) : Prop :=
  ∃ k : Nat, vi = .int .i64 (k : Int) ∧ n - k = gh ∧ k ≤ n ∧ LsK .i64 wr g1 A1 (pathC c ms n) ∧ LsK .i64 wr g2 A2 (pathC c ms n) ∧ Below w.heap.size w wr
theorem ls_draw {w : World} {g : Nat} {A : Option Addr} {zs : List Int} (h : LsK .i64 w g A zs) (n : Nat) : LsK .i64 (w.drewN n) g A zs := h
theorem own : ownKnob Tryd.prog.godebug = none := by kernel_rfl
theorem laidOut : laidOutB Tryd.prog = true := by kernel_rfl

set_option maxHeartbeats 4000000 in
set_option maxRecDepth 100000 in
theorem walk (a0 : Int) (a1 : Option Addr) (len1 cap1 : Nat) (w : World) (w0 : (Lit.int .i64 a0).wf = true) (w1 : IsRows w a1 len1 cap1 1 [(0, .inr false)]) (L0 : NamesAt w) :
    Calls Tryd.prog 4 #[.int .i64 a0, .slice a1 len1 cap1] w fun e w' => e = .returned (.bool true) ∧ Below w.heap.size w w' := by
  have b0 := bounds_i64 w0
  clear w0
  have hc0 : len1 ≤ cap1 ∧ cap1 ≤ maxLen := by
    rcases w1 with ⟨_, rfl, rfl⟩ | ⟨x, rfl, h1, h2, _⟩
    · exact ⟨Nat.le_refl _, Nat.zero_le _⟩
    · exact ⟨h1, h2⟩
  obtain ⟨hc1, hc2⟩ := hc0
  unfold maxLen at hc2
  obtain ⟨L, hn⟩ : ∃ n, n = min len1 60 := ⟨_, rfl⟩
  have hn1 : L ≤ len1 := by omega
  have hn2 : L ≤ 60 := by omega
  obtain ⟨gm, ms, hms, hls⟩ := rows_lsB w1 L hn1
  have HM := Lib.hid hms
  have HV := Lib.hid hls
  have HN := Lib.hid hn
  have HT := Lib.hid L0
  have HB := Lib.hid b0
  clear w1 hn hms hls L0 b0
  go_enter Tryd.func4, Tryd.ntmps4
  go_upto_region 1 with (fail)
  go_cut [1] (fun v wx => v = .slice a1 L cap1 ∧ w = wx)
  case first =>
    by_cases h60 : len1 ≤ 60
    · obtain rfl : len1 = L := by have := HN.out; omega
      have k1 : (len1 : Int) ≤ 60 := by omega
      have k2 : (0 : Int) ≤ (len1 : Int) := by omega
      have k3 : (len1 : Int) ≤ (cap1 : Int) := by omega
      go_wp2_with fail
      go_meet
      case rel => exact ⟨congrArg (fun n => Value.slice a1 n cap1) (by omega), rfl⟩
    · obtain rfl : L = 60 := by have := HN.out; omega
      have k1 : (60 : Int) < (len1 : Int) := by omega
      have k3 : (60 : Int) ≤ (cap1 : Int) := by omega
      go_wp2_with fail
      go_meet
      case rel => exact ⟨congrArg (fun n => Value.slice a1 n cap1) (by omega), rfl⟩
  case rest =>
    obtain ⟨rfl, rfl⟩ := hcut
    have HP := Lib.hid (pathC_len a0 ms L)
    go_wp2_with (first
      | (go_at_call 9; refine (path_any gm L cap1 a1 ms a0 _ HV.out HM.out (by omega) HB.out).mono ?_; rintro e w1 ⟨g1, c1, rfl, O1, B1⟩)
      | (go_at_call 10; refine (refPath_any gm L cap1 a1 ms a0 _ (HV.out.kept B1) HM.out (by omega) HB.out).mono ?_; rintro e w2 ⟨v2, rfl, O2, B2⟩; obtain ⟨g2, A2, c2, rfl, S2⟩ := own_ls O2 HP.out; obtain ⟨g1', A1, c1', e1, S1⟩ := own_ls (O1.kept B2) HP.out; cases e1; have N2 := Lib.hid ((HT.out.kept B1).kept B2); have L2 := new_then B1 B2; clear O1 O2 B1 B2)
      | (go_at_call 11; have h := N3; clear h; refine (names_any _ 2 2 _ [a0, 2] _ (lsTwo _ _ _ _) rfl (by omega) (N3.out.kept (new_alloc (new_refl _) _))).mono ?_; rintro e w4 ⟨rfl, B4⟩)
      | (go_at_call 11; refine (names_any _ L _ _ (pathC a0 ms L) _ S1 HP.out (by omega) N2.out).mono ?_; rintro e w3 ⟨rfl, B3⟩; have N3 := Lib.hid (N2.out.kept B3); replace S1 := S1.kept B3; replace S2 := S2.kept B3; have L3 := new_then L2 B3; clear N2 L2 B3)
      | (go_at_call 12; have h := B4; clear h; refine (refNames_any _ 2 2 _ [a0, 2] _ (lsTwo _ _ _ _) rfl (by omega)).mono ?_; rintro e w5 ⟨rfl, rfl⟩)
      | (go_at_call 12; refine (refNames_any _ L _ _ (pathC a0 ms L) _ S2 HP.out (by omega)).mono ?_; rintro e w5 ⟨rfl, rfl⟩))
    have B5 : Below w3.heap.size w3 (w4.alloc (.cells #[.int .i64 a0, .int .i64 2] 3)) := new_alloc (new_then (new_alloc (new_refl w3) _) B4) _
    have L5 := new_then L3 B5
    replace S1 := S1.kept B5
    replace S2 := S2.kept B5
    generalize w4.alloc (.cells #[.int .i64 a0, .int .i64 2] 3) = W at *
    clear B4 B5 L3 N3 HV HN HT
    go_loopg [42] L (fun gh vi wr => PaI w a0 ms L g1' g2 (some ⟨g1, 0, none⟩) A2 gh vi wr)
    case atStart => exact ⟨0, rfl, rfl, by omega, S1, S2, L5⟩
    case round =>
      clear S1 S2 L5
      obtain ⟨k, rfl, rfl, hk, S1, S2, hB⟩ := hrel
      by_cases hlt : k < L
      · have k0 : (0 : Int) ≤ (k : Int) := by omega
        have k1 : (k : Int) < (L : Int) := by omega
        obtain ⟨o1, e1, x1⟩ := ls_at S1 hlt
        obtain ⟨o2, e2, x2⟩ := ls_at S2 hlt
        cases e1
        subst e2
        have T1 := Lib.hid S1
        have T2 := Lib.hid S2
        have hbd := codeAt_bd (ms := ms) (k := k + 1) HB.out
        rw [Nat.zero_add] at x1
        have HG := Lib.hid (fun h => legal_path (c := a0) (ms := ms) (k := k + 1) h)
        clear S1 S2
        generalize codeAt a0 ms (k + 1) = x at *
        cases hi : isC a0 with
        | true =>
          have C1 : Hid (∀ w, Calls Tryd.prog 13 #[.int .i64 a0] w fun e w' => e = .returned (.bool true) ∧ w = w') := Lib.hid (by have := refIs_any a0; rwa [hi] at this)
          have C2 : Hid (∀ w, Calls Tryd.prog 14 #[.int .i64 a0, .int .i64 x] w fun e w' => e = .returned (.bool true) ∧ w = w') := Lib.hid (by have := legal_any a0 x; rwa [HG.out hi] at this)
          clear HG
          go_wp2_with fail
          go_quiet (first | (go_at_call 13; exact quiet_as (C1.out _)) | (go_at_call 14; exact quiet_as (C2.out _)))
          go_wp2_with fail
          go_roundg (L - (k + 1))
          case measure => omega
          case rel => exact ⟨k + 1, by go_num, rfl, by omega, ls_draw T1.out _, ls_draw T2.out _, new_draw hB _⟩
        | false =>
          have C1 : Hid (∀ w, Calls Tryd.prog 13 #[.int .i64 a0] w fun e w' => e = .returned (.bool false) ∧ w = w') := Lib.hid (by have := refIs_any a0; rwa [hi] at this)
          clear HG
          go_wp2_with fail
          go_quiet (first | (go_at_call 13; exact quiet_as (C1.out _)))
          go_wp2_with fail
          go_roundg (L - (k + 1))
          case measure => omega
          case rel => exact ⟨k + 1, by go_num, rfl, by omega, ls_draw T1.out _, ls_draw T2.out _, new_draw hB _⟩
      · obtain rfl : k = L := by omega
        clear S1 S2
        go_wp2_with (first
          | (go_at_call 8; refine (works09_any _).mono ?_; rintro e w6 ⟨rfl, rfl⟩))
        go_ret
        exact ⟨rfl, hB⟩

set_option maxRecDepth 100000 in
theorem lifted (os : Os) (started : os.Started) (H : Type) (enc : TypeId × Value → H) :
    ReturnsInHanded {} Tryd.checked os 4 .any (fun w args => (Rows.ecnPathsSpec.pre enc Tryd.prog Tryd.f4 [] false w args ∧ laidMetH Tryd.prog laidN w) ∧ sizedMet enc Tryd.prog Tryd.f4 (OpenSpec.ofChange Rows.ecnPathsSpec) false w args)
      (Rows.ecnPathsSpec.post enc Tryd.prog Tryd.f4 false true false false) := by
  refine returnsInHanded_of_change_and (C := Tryd.checked) (X := fun w _ => laidMetH Tryd.prog laidN w) (fun _ _ _ hh h => h.of_heap hh) own started (by kernel_rfl) Tryd.func4
    (ChangeSpec.witness_shaped (enc := enc) (C := Tryd.checked) (os := os) (X := fun w _ => laidMetH Tryd.prog laidN w) false (World.doorLaid Tryd.prog 400 os) #[.int .i64 0, .slice none 0 0] 8 rfl (World.shaped_of_RefB (by kernel_rfl) (by kernel_rfl)) (by kernel_rfl) (by kernel_rfl) (by kernel_rfl) (door_met os _)) ?_
  intro W base args ds gs before hval0 hW _ _ hL _
  have hval : ∀ (j : Nat) t v, Tryd.f4.params[j]? = some t → args[j]? = some v → Value.okWide Tryd.prog W .any base t v := hval0
  have hW' := hW
  obtain ⟨p, q, hA0, hV, rfl, hfz, hnd⟩ := hW
  have hA : DataW.TrodAll enc Tryd.prog W 0 (fun _ => true) true Tryd.f4.params.toList args.toList ds p := hA0
  rw [Tryd.params4] at hA hval
  obtain ⟨v0, vs0, d0, ds0, p0, q0, hargs, rfl, rfl, h0, r0⟩ := trodAll_cons hA
  obtain ⟨v1, vs1, d1, ds1, p1, q1, rfl, rfl, rfl, h1, r1⟩ := trodAll_cons r0
  obtain ⟨rfl, rfl, rfl⟩ := trodAll_nil r1
  obtain rfl : args = #[v0, v1] := by cases args; simp_all
  obtain ⟨rfl, rfl⟩ := trodVars_none hV
  have k0 := h0
  have lt0 : ∀ x ∈ p0, x.block < W.heap.size := by obtain ⟨m, hm⟩ := k0; exact DataW.trod_lt m _ _ _ hm
  obtain ⟨a0, rfl, _, _, w0⟩ := open_int Tryd.underlying3 (hval 0 3 v0 rfl rfl) h0
  have k1 := h1
  have lt1 : ∀ x ∈ p1, x.block < W.heap.size := by obtain ⟨m, hm⟩ := k1; exact DataW.trod_lt m _ _ _ hm
  obtain ⟨a1, len1, cap1, rfl⟩ := okWide_slice Tryd.underlying27 (hval 1 27 v1 rfl rfl)
  have w1 := isRows_of (n := 1) (ls := [(0, .inr false)]) Tryd.underlying27 (by kernel_rfl) (by kernel_rfl) (by decide) h1
  clear hA0 hval0
  refine (walk a0 a1 len1 cap1 W w0 w1 (of_laid hL)).mono fun e W' ⟨he, bel⟩ => ?_
  subst he
  exact ⟨_, rfl, _, _, _, [], _, [], hW', trodAll_mk1 (shut_bool Tryd.underlying4 _), (trodAll_cons_mk (Below.trod laidOut (by kernel_rfl) (of_decide_eq_true (by kernel_rfl)) k0 bel lt0) (trodAll_cons_mk (Below.trod laidOut (by kernel_rfl) (of_decide_eq_true (by kernel_rfl)) k1 bel lt1) trodAll_mk0)), rfl, bel.frame _, fun h => by cases h⟩

theorem over : Rows.ecnPathsRow.holds Tryd.pinned (OpenSpec.ofChange Rows.ecnPathsSpec) :=
  OpenClaim.holds_of_wide 4 Tryd.f4 rfl rfl rfl rfl rfl rfl rfl ⟨rfl, rfl, rfl, rfl, rfl⟩ rfl rfl rfl rfl rfl (by kernel_rfl) Tryd.func4 (by kernel_rfl)
    (of_decide_eq_true (by kernel_rfl)) (by unfold Func.isWrapper; first | (rw [if_pos (by decide +kernel)]; kernel_rfl) | (rw [if_neg (by decide +kernel)]; exact ⟨rfl, rfl⟩))
    (fun os started H enc _ => lifted os started H enc)
end ecnPaths
theorem ecnPaths_holds : Rows.EcnPathsCardSaid :=
  Claim7.holds_tied_plain_at .later [] [.data] true (true, "04c61951299e295195bb54aaaf1754e343ae31181a18016d1e8a4d697fa3af4c") false
    ecnPaths.over (fun _ h => by cases h) (by kernel_rfl) (fun _ h => by cases h) ecnPaths_row_tie rfl ⟨rfl, rfl⟩ (by kernel_rfl) rfl
    (fun f fn hf hfn => by
      obtain rfl : f = 4 := Option.some.inj ((show Tryd.prog.funcNamed "leat/leatlaw09.EcnPaths" = some 4 by kernel_rfl).symm.trans hf) |>.symm
      obtain rfl : fn = Tryd.f4 := (Option.some.inj (Tryd.func4.symm.trans hfn)).symm
      exact ⟨by kernel_rfl, fun j t ht => by
        rw [Tryd.params4] at ht
        have hm : t ∈ [3, 27] := by simpa using Array.mem_of_getElem? ht
        have hall : ([3, 27].all fun u => !Tryd.prog.wantsStandIn u) = true := by kernel_rfl
        exact (show Tryd.prog.wantsStandIn t = false by simpa using List.all_eq_true.1 hall t hm)⟩)
    (by kernel_rfl)
end Go.Proofs.YtfibjimahkpabaaDoor
