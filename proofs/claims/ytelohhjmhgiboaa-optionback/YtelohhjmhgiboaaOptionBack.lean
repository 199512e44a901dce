/- For every list of options (its first twelve, their first twelve numbers, the first sixty bytes of their texts) and every list of bytes (its first sixty): options that are printed are parsed as they were, their bytes are a multiple of four and not above forty; what is parsed is printed, in at most three bytes more, and parsed again, the same; and the chapter's example holds: OptionBack returns true and changes nothing that was there. No conditions. -/
import Derived.Test.YtelohhjmhgiboaaKit
import Derived.Test.YtelohhjmhgiboaaOptK
import Derived.Test.YtelohhjmhgiboaaOptR
import Derived.Test.YtelohhjmhgiboaaOptV
import Derived.Test.YtelohhjmhgiboaaKitN
import Derived.Deep.DeepCutAuto
namespace Go.Proofs.Ytelohhjmhgiboaa
namespace optionBack
open Go.ChangeShapes Go.WideShapes Go.ChangeAt Go.RowKit
open Go.ChangeMaps (open_string shut_string)
set_option linter.unusedVariables false

theorem own_lsB {w : World} {base n c : Nat} {A : Option Addr} {zs : List Int} (h : OwnB w base (.slice A n c) zs) : (∃ g, LsK .u8 w g A zs) ∧ zs.length = n ∧ n ≤ c := by
  rcases h.form with ⟨e, rfl⟩ | ⟨g, c', e⟩
  · simp at e
    obtain ⟨rfl, rfl, rfl⟩ := e
    exact ⟨⟨0, .inl rfl⟩, rfl, Nat.le_refl _⟩
  · simp at e
    obtain ⟨rfl, rfl, rfl⟩ := e
    obtain ⟨_, h2, _, _, _⟩ := h.blk
    exact ⟨⟨g, own_ls h⟩, rfl, h2⟩
theorem byt_flat (w : Nat) : ∀ zs : List Int, bytS (zs.flatMap (fun z => putF z w))
  | [] => fun x hx => by simp at hx
  | z :: zs => by rw [List.flatMap_cons]; exact byt_app (put_byt w z) (byt_flat w zs)
theorem byt_opt {o : Opt} (h : fineO o = true) (hl : lenO o ≤ 255) : bytS (bytO o) := by
  have hk := fine_kind h
  intro x hx
  rw [bytO] at hx
  rcases List.mem_cons.1 hx with rfl | hx
  · omega
  · rcases List.mem_cons.1 hx with rfl | hx
    · omega
    · rcases List.mem_append.1 hx with hx | hx
      · exact byt_flat _ _ x hx
      · exact sb_byte _ x hx
theorem byt_all : ∀ os : List Opt, (∀ o ∈ os, fineO o = true) → (allO os).length ≤ 255 → bytS (allO os)
  | [], _, _ => fun x hx => by simp [allO] at hx
  | o :: os, h, hl => by
    rw [allO_cons] at hl ⊢
    rw [List.length_append, bytO_len] at hl
    exact byt_app (byt_opt (h o (List.mem_cons_self ..)) (by omega)) (byt_all os (fun x hx => h x (List.mem_cons_of_mem _ hx)) (by omega))
theorem byt_pad {os : List Opt} (h : chkO [] os 0 = 0) : bytS (padO (allO os)) := by
  obtain ⟨h1, h2⟩ := chk_ok os [] 0 h
  exact byt_app (byt_all os h1 (by omega)) (fun x hx => by rw [List.eq_of_mem_replicate hx]; omega)
theorem pos_has {w : World} {xs : List OC} (h : ∀ x ∈ xs, HasO w x) : ∀ o ∈ xs.map OC.o, posO o := by
  intro o ho
  obtain ⟨x, hx, rfl⟩ := List.mem_map.1 ho
  exact fun z hz => ((h x hx).u32 z hz).1
/-- What is printed can be parsed. -/
theorem parse_own {w w' : World} {base n c : Nat} {A : Option Addr} {os : List Opt} {T : List Opt × Int} (hc : chkO [] os 0 = 0) (h : OwnB w base (.slice A n c) (prO os)) (B : Below w.heap.size w w') (hT : parA (padO (allO os)) = T) (hn : n ≤ 1000) : Calls Try.prog 7 #[.slice A n c] w' (ParTo w' T) := by
  have e : prO os = padO (allO os) := by rw [prO, if_pos hc]
  rw [e] at h
  obtain ⟨⟨g, h1⟩, h2, h3⟩ := own_lsB (h.kept B)
  rw [← hT]
  exact parse_any A g n c _ w' h1 h2 (byt_pad hc) h3 (by omega)
theorem prn_len {w : World} {base n c : Nat} {A : Option Addr} {os : List Opt} (hc : chkO [] os 0 = 0) (h : OwnB w base (.slice A n c) (prO os)) : (padO (allO os)).length = n := by
  have e : prO os = padO (allO os) := by rw [prO, if_pos hc]
  rw [e] at h
  exact (own_lsB h).2.1
theorem same_len {w w' : World} {A B : Option Addr} {n m : Nat} {xs ys : List OC} (h : OptsAt w A n xs) (k : OptsAt w' B m ys) (hx : xs.map OC.o = ys.map OC.o) : n = m := by
  rw [← h.len, ← k.len]
  have := congrArg List.length hx
  simpa using this
def CutB (w : World) (N L : Nat) (a1 : Option Addr) (cap1 : Nat) (v u : Value) (wx : World) : Prop := ∃ (A : Option Addr) (c : Nat) (xs : List OC), v = .slice A N c ∧ u = .slice a1 L cap1 ∧ OptsAt wx A N xs ∧ N ≤ c ∧ Below w.heap.size w wx
theorem own : ownKnob Try.prog.godebug = none := by kernel_rfl
theorem laidOut : laidOutB Try.prog = true := by kernel_rfl

set_option maxHeartbeats 4000000 in
set_option maxRecDepth 100000 in
theorem walk (a0 : Option Addr) (len0 cap0 : Nat) (a1 : Option Addr) (len1 cap1 : Nat) (z1 : List Int) (w : World) (w0 : IsRowsN w a0 len0 cap0 3 [(0, .inl .i64), (1, .inr (.inr .u32)), (2, .inr (.inl true))]) (w1 : IsRow .u8 w a1 len1 cap1 z1) :
    Calls Try.prog 6 #[.slice a0 len0 cap0, .slice a1 len1 cap1] w fun e w' => e = .returned (.bool true) ∧ Below w.heap.size w w' := by
  have hS := Lib.hid (srcO_of w0)
  have hlen : len0 ≤ maxLen := by
    rcases w0 with ⟨_, h, _⟩ | ⟨_, _, h1, h2, _⟩
    · rw [h]; exact Nat.zero_le _
    · omega
  obtain ⟨N, hN⟩ : ∃ N, N = min len0 12 := ⟨_, rfl⟩
  have HF := Lib.hid (few_any a0 len0 cap0 N w.drew (show SrcO w.drew a0 len0 from hS.out) hN hlen)
  have n12 : N ≤ 12 := by omega
  have hc2 := (row_low w1).2
  unfold maxLen at hc2
  obtain ⟨L, hn⟩ : ∃ n, n = min len1 60 := ⟨_, rfl⟩
  have hn1 : L ≤ len1 := by omega
  have hn2 : L ≤ 60 := by omega
  have hn3 : L ≤ cap1 := by have := (row_low w1).1; omega
  have ew : (if (60 : Int) < (len1 : Int) then (60 : Int) else (len1 : Int)) = (L : Int) := by split <;> omega
  have k2 : (0 : Int) ≤ (L : Int) := by omega
  have k3 : (L : Int) ≤ (cap1 : Int) := by omega
  obtain ⟨gl, hls⟩ := row_ls w1 L hn1
  have hU := byt_row (k := L) w1
  have hl := row_take w1 L hn1
  generalize z1.take L = ds at hls hU hl
  have HPB := Lib.hid (fun w' (B : Below w.heap.size w w') => parse_any a1 gl L cap1 ds w' (hls.kept B) hl hU hn3 (by omega))
  have HDL := Lib.hid hl
  have HDB := Lib.hid hU
  clear w0 w1 hN hlen hn hls hU hl
  go_enter Try.func6, Try.ntmps6
  go_upto_region 1 with (fail)
  go_cut [0, 1] (fun v u wx => CutB w N L a1 cap1 v u wx)
  case first =>
    go_region_held3 (fun w' => True)
      (trivial)
      (first
        | (go_at_call 11; refine HF.out.mono ?_; rintro e w2 ⟨A2, c2, xs, rfl, X2, hc2, B2⟩; replace B2 := new_undrew B2))
    all_goals
      go_wp2_with fail
      go_meet
      case rel => exact ⟨A2, c2, xs, rfl, rfl, X2, hc2, B2⟩
  case rest =>
    obtain ⟨A, c, xs, rfl, rfl, hx, hNc, hB⟩ := hcut
    have HX := Lib.hid hx
    clear hx HF hS ew k2 k3
    have PR := Lib.hid (print_any A N c xs wc HX.out (by omega))
    obtain ⟨os, hos⟩ : ∃ os, xs.map OC.o = os := ⟨_, rfl⟩
    rw [hos] at PR
    have HOS := Lib.hid hos
    have HPO : Hid (∀ o ∈ os, posO o) := Lib.hid (by rw [← hos]; exact pos_has HX.out.has)
    clear hos
    by_cases hck : chkO [] os 0 = 0
    case' pos =>
      obtain ⟨bk1, bk2, bk3⟩ := back_one HPO.out hck
      unfold PrnTo at PR
      rw [hck] at PR
      have HCK := Lib.hid hck
      have HBK := Lib.hid bk1
      have HB2 := Lib.hid bk2
      have HB3 := Lib.hid bk3
      clear hck bk1 bk2 bk3
      go_upto_region 4 with (first
        | (go_at_call 12; refine PR.out.mono ?_; rintro e w2 ⟨A2, n2, c2, rfl, O2, B2⟩))
      have hnl := prn_len HCK.out O2
      have hn40 : n2 ≤ 40 := by have := HB3.out; omega
      have hn4 : (n2 : Int) % 4 = 0 := by have := HB2.out; omega
      have kn : ¬ (40 : Int) < (n2 : Int) := by omega
      have PC := Lib.hid (parse_own HCK.out O2 (new_refl w2) HBK.out (by omega))
      have HX2 := Lib.hid (HX.out.kept B2)
      have L2 := new_then hB B2
      clear O2 hnl B2
      go_upto_region 5 with (first
        | (go_at_call 7; refine PC.out.mono ?_; rintro e w3 ⟨A3, n3, c3, ys, rfl, X3, m3, l3, d3, B3⟩))
      obtain rfl : n3 = N := same_len X3 HX2.out (m3.trans HOS.out.symm)
      have CA := Lib.hid (all_any A3 A n3 c3 c ys xs w3 X3 (HX2.out.kept B3) (m3.trans HOS.out.symm) (by omega))
      have L3 := new_then L2 B3
      clear X3 m3 B3 L2
      go_upto_region 7 with (first
        | (go_at_call 9; refine CA.out.mono ?_; rintro e w4 ⟨rfl, B4⟩))
      have L4 := new_then L3 B4
      clear L3 B4 hB CA HX2 PC PR hn4 kn
    case' neg =>
      have hck' : (chkO [] os 0 == 0) = false := by simp [hck]
      unfold PrnTo at PR
      generalize chkO [] os 0 = q at PR hck' hck
      go_upto_region 7 with (first
        | (go_at_call 12; refine PR.out.mono ?_; rintro e w4 ⟨A2, n2, c2, rfl, O2, B2⟩))
      have L4 := new_then hB B2
      clear hB B2 O2 PR hck' hck
    all_goals
      clear HX HOS HPO
      obtain ⟨T, hT⟩ : ∃ T, parA ds = T := ⟨_, rfl⟩
      have PB := Lib.hid (HPB.out w4 L4)
      rw [hT] at PB
      obtain ⟨ms, q⟩ := T
      by_cases hq : q = 0
      · subst hq
        obtain ⟨bt1, bt2, bt3⟩ := back_two HDB.out hT
        rw [HDL.out] at bt3
        have HC1 := Lib.hid bt1
        have HC2 := Lib.hid bt2
        have HC3 := Lib.hid bt3
        clear bt1 bt2 bt3 hT
        go_upto_region 9 with (first
          | (go_at_call 7; refine PB.out.mono ?_; rintro e w5 ⟨A5, n5, c5, ys, rfl, X5, m5, l5, d5, B5⟩))
        have P5 := Lib.hid (print_any A5 n5 c5 ys w5 X5 (by omega))
        have HM5 : Hid (ys.map OC.o = ms) := Lib.hid m5
        rw [HM5.out] at P5
        unfold PrnTo at P5
        rw [HC1.out] at P5
        have HX5 := Lib.hid X5
        have L5 := new_then L4 B5
        clear X5 m5 B5 L4 PB
        go_upto_region 10 with (first
          | (go_at_call 12; refine P5.out.mono ?_; rintro e w6 ⟨A6, n6, c6, rfl, O6, B6⟩))
        have hnl := prn_len HC1.out O6
        have hn6 : n6 ≤ L + 3 := by have := HC3.out; omega
        have P6 := Lib.hid (parse_own HC1.out O6 (new_refl w6) HC2.out (by omega))
        have HX6 := Lib.hid (HX5.out.kept B6)
        have L6 := new_then L5 B6
        clear O6 hnl B6 L5 P5 HX5
        go_upto_region 11 with (first
          | (go_at_call 7; refine P6.out.mono ?_; rintro e w7 ⟨A7, n7, c7, zs, rfl, X7, m7, l7, d7, B7⟩))
        obtain rfl : n7 = n5 := same_len X7 HX6.out (m7.trans HM5.out.symm)
        have CA := Lib.hid (all_any A7 A5 n7 c7 c5 zs ys w7 X7 (HX6.out.kept B7) (m7.trans HM5.out.symm) (by omega))
        have L7 := new_then L6 B7
        have kn : ¬ (L : Int) + 3 < (n6 : Int) := by omega
        clear X7 m7 B7 L6 HX6 P6
        go_wp2_with (first
          | (go_at_call 9; refine CA.out.mono ?_; rintro e w8 ⟨rfl, B8⟩)
          | (go_at_call 10; refine (works12_any _).mono ?_; rintro e w9 ⟨rfl, B9⟩))
        go_ret
        exact ⟨rfl, new_then (new_then L7 B8) B9⟩
      · have hq' : (q == 0) = false := by simp [hq]
        clear hT
        go_wp2_with (first
          | (go_at_call 7; refine PB.out.mono ?_; rintro e w5 ⟨A5, n5, c5, ys, rfl, X5, m5, l5, d5, B5⟩; clear X5 m5)
          | (go_at_call 10; refine (works12_any _).mono ?_; rintro e w9 ⟨rfl, B9⟩))
        go_ret
        exact ⟨rfl, new_then (new_then L4 B5) B9⟩

set_option maxRecDepth 100000 in
theorem lifted (os : Os) (started : os.Started) (H : Type) (enc : TypeId × Value → H) :
    ReturnsInHanded {} Try.checked os 6 .any (Rows.optionBackSpec.pre6 enc Try.prog Try.f6 Rows.optionBackRow.domain false) (Rows.optionBackSpec.post enc Try.prog Try.f6 false true false false) := by
  refine returnsInHanded_of_change (C := Try.checked) own started (by kernel_rfl) Try.func6
    (ChangeSpec.witness6 (enc := enc) (C := Try.checked) false ⟨#[], #[.slice none 0 0, .slice none 0 0], []⟩ 8 (by kernel_rfl) (by kernel_rfl) (by kernel_rfl) (by kernel_rfl)) ?_
  intro W base args ds gs before hval0 hW hcnd _
  have hval : ∀ (j : Nat) t v, Try.f6.params[j]? = some t → args[j]? = some v → Value.okWide Try.prog W .any base t v := hval0
  have hW' := hW
  obtain ⟨p, q, hA0, hV, rfl, hfz, hnd⟩ := hW
  have hA : DataW.TrodAll enc Try.prog W 0 (fun _ => true) true Try.f6.params.toList args.toList ds p := hA0
  rw [Try.params6] at hA hval
  obtain ⟨v0, vs0, d0, ds0, p0, q0, hargs, rfl, rfl, h0, r0⟩ := trodAll_cons hA
  obtain ⟨v1, vs1, d1, ds1, p1, q1, rfl, rfl, rfl, h1, r1⟩ := trodAll_cons r0
  obtain ⟨rfl, rfl, rfl⟩ := trodAll_nil r1
  obtain rfl : args = #[v0, v1] := by cases args; simp_all
  obtain ⟨rfl, rfl⟩ := trodVars_none hV
  have k0 := h0
  have lt0 : ∀ x ∈ p0, x.block < W.heap.size := by obtain ⟨m, hm⟩ := k0; exact DataW.trod_lt m _ _ _ hm
  obtain ⟨a0, len0, cap0, rfl⟩ := okWide_slice Try.underlying23 (hval 0 23 v0 rfl rfl)
  have w0 := isRowsN_of (n := 3) (ls := [(0, .inl .i64), (1, .inr (.inr .u32)), (2, .inr (.inl true))]) Try.underlying23 (by kernel_rfl) (by kernel_rfl) (by decide) h0
  have k1 := h1
  have lt1 : ∀ x ∈ p1, x.block < W.heap.size := by obtain ⟨m, hm⟩ := k1; exact DataW.trod_lt m _ _ _ hm
  obtain ⟨a1, len1, cap1, rfl⟩ := okWide_slice Try.underlying22 (hval 1 22 v1 rfl rfl)
  obtain ⟨z1, w1⟩ := isRow_of Try.underlying22 Try.underlying5 (by kernel_rfl) h1
  clear hA0 hval0
  refine (walk a0 len0 cap0 a1 len1 cap1 z1 W w0 w1).mono fun e W' ⟨he, bel⟩ => ?_
  subst he
  exact ⟨_, rfl, _, _, _, [], _, [], hW', trodAll_mk1 (shut_bool Try.underlying4 _), (trodAll_cons_mk (Below.trod laidOut (by kernel_rfl) (of_decide_eq_true (by kernel_rfl)) k0 bel lt0) (trodAll_cons_mk (Below.trod laidOut (by kernel_rfl) (of_decide_eq_true (by kernel_rfl)) k1 bel lt1) trodAll_mk0)), rfl, bel.frame _, fun h => by cases h⟩

theorem over : Rows.optionBackRow.holds Try.pinned (OpenSpec.ofChange Rows.optionBackSpec) :=
  OpenClaim.holds_of_wide 6 Try.f6 rfl rfl rfl rfl rfl rfl rfl ⟨rfl, rfl, rfl, rfl, rfl⟩ rfl rfl rfl rfl rfl (by kernel_rfl) Try.func6 (by kernel_rfl)
    (of_decide_eq_true (by kernel_rfl)) (by unfold Func.isWrapper; first | (rw [if_pos (by decide +kernel)]; kernel_rfl) | (rw [if_neg (by decide +kernel)]; exact ⟨rfl, rfl⟩))
    (fun os started H enc _ => lifted os started H enc)
end optionBack
theorem optionBack_holds : Rows.OptionBackSaid := optionBack.over
end Go.Proofs.Ytelohhjmhgiboaa
