/- For every window, every list of times and numbers and every time: of the first fifty of the list, put one behind the other, the filter tells behind each one the least number within the window at that one's time, and how many are less than all that came later, as the document does, and so it does at the time that is given; the chapter's example holds: LeastFinds returns true and changes nothing that was there. No conditions. -/
import Derived.Test.YtphhcplellpikaaKit
import Derived.Test.YtphhcplellpikaaLeaF
namespace Go.Proofs.Ytphhcplellpikaa
namespace leastFinds
open Go.ChangeShapes Go.WideShapes Go.ChangeAt Go.RowKit
open Go.ChangeMaps (open_string shut_string)
set_option linter.unusedVariables false

theorem pair_at {w : World} {a : Option Addr} {len cap : Nat} (h : IsRows w a len cap 2 [(0, Sum.inl IntKind.i64), (1, Sum.inl IntKind.i64)]) (hp : 0 < len) :
    ∃ b off, a = some ⟨b, off, none⟩ ∧ ∀ i, i < len → ∃ t x : Int, w.cell? ⟨b, off + i * 2, none⟩ = some (.int .i64 t) ∧ w.cell? ⟨b, off + i * 2 + 1, none⟩ = some (.int .i64 x) := by
  obtain ⟨b, off, rfl, _, _, h⟩ := rows_at h hp
  refine ⟨b, off, rfl, fun i hi => ?_⟩
  obtain ⟨u0, h0, x0, rfl, _⟩ := h i hi (0, .inl .i64) (by simp)
  obtain ⟨u1, h1, x1, rfl, _⟩ := h i hi (1, .inl .i64) (by simp)
  exact ⟨x0, x1, h0, h1⟩
def FdI (w : World) (b : Nat) (W : Int) (len gh : Nat) (va vi : Value) (wr : World) : Prop :=
  ∃ (k : Nat) (l : List Lc) (V : Value), vi = .int .i64 (k : Int) ∧ k ≤ len ∧ k ≤ 50 ∧ len - k = gh ∧ l.length = k ∧ TmL l ∧ LsAt w b W V l l va wr
def FdE (w : World) (b : Nat) (W : Int) (va : Value) (wr : World) : Prop := ∃ (l : List Lc) (V : Value), l.length ≤ 50 ∧ TmL l ∧ LsAt w b W V l l va wr
theorem own : ownKnob Try.prog.godebug = none := by kernel_rfl
theorem laidOut : laidOutB Try.prog = true := by kernel_rfl

set_option maxHeartbeats 4000000 in
set_option maxRecDepth 100000 in
theorem walk (a0 : Int) (a1 : Option Addr) (len1 cap1 : Nat) (a2 : Int) (w : World) (w0 : (Lit.int .i64 a0).wf = true) (w1 : IsRows w a1 len1 cap1 2 [(0, .inl .i64), (1, .inl .i64)]) (w2 : (Lit.int .i64 a2).wf = true) :
    Calls Try.prog 3 #[.int .i64 a0, .slice a1 len1 cap1, .int .i64 a2] w fun e w' => e = .returned (.bool true) ∧ Below w.heap.size w w' := by
  have HW := Lib.hid w1
  have N := Lib.hid (new21_any a0 w)
  have wb := wnL_bd a0
  obtain ⟨W, eW⟩ : ∃ W, wnL a0 = W := ⟨_, rfl⟩
  have EW := Lib.hid eW
  rw [eW] at N wb
  clear w0 w1 w2 eW
  go_enter Try.func3, Try.ntmps3
  go_upto_block 0 with (go_at_call 5; refine N.out.mono ?_; rintro e w1 ⟨b, rfl, hb, D1, B1⟩; have A1 := Lib.hid (ls_new hb D1 B1); clear D1 B1)
  go_cut [8] (fun va wx => FdE w b W va wx)
  case first =>
    go_wp2_with fail
    go_loopg [8, 23] len1 (fun gh va vi wr => FdI w b W len1 gh va vi wr)
    case atStart => exact ⟨0, [], _, rfl, Nat.zero_le _, by omega, rfl, rfl, by simp [TmL], A1.out⟩
    case round =>
      clear A1 N
      obtain ⟨k, l, V, rfl, hk, hk5, hgh, hl, ht, D⟩ := hrel
      have HL := Lib.hid hl
      have HT := Lib.hid ht
      have HD := Lib.hid D
      clear hl ht D
      by_cases hlt : k < len1
      · have i0 : (0 : Int) ≤ (k : Int) := by omega
        have i1 : (k : Int) < (len1 : Int) := by omega
        obtain ⟨bl, off, rfl, hc⟩ := pair_at HW.out (by omega)
        obtain ⟨t, x, e0, e1⟩ := hc k hlt
        replace e0 := cell_kept HD.out.low e0
        replace e1 := cell_kept HD.out.low e1
        clear hc
        by_cases h5 : k < 50
        · have i2 : (k : Int) < 50 := by omega
          have i3 : ¬ (50 : Int) ≤ (k : Int) := by omega
          go_upto_region 7 with (fail)
          have HA := Lib.hid (Blk.new wr [.int .i64 t, .int .i64 x] 26)
          have HD1 := Lib.hid (HD.out.kept (new_alloc (new_refl wr) (.cells #[.int .i64 t, .int .i64 x] 26)))
          have hga : wr.heap.size ≠ b ∧ V.ownBlock ≠ some wr.heap.size := ⟨by have := HD.out.lt.1; omega, fun e => by have := HD.out.lt.2 _ e; omega⟩
          have HLN := Lib.hid (show (ptL l t x).length = k + 1 by rw [ptL_len, HL.out])
          have HTN := Lib.hid (ptL_time HT.out t x)
          have HLk := Lib.hid (show l.length < 1000000 by rw [HL.out]; omega)
          have HLj := Lib.hid (show (ptL l t x).length ≤ 1000000 by rw [HLN.out]; omega)
          generalize wr.alloc (.cells #[.int .i64 t, .int .i64 x] 26) = W1 at *
          generalize wr.heap.size = ga at *
          clear e0 e1 HD
          have c0 := HA.out.cell 0 rfl
          have c1 := HA.out.cell 1 rfl
          go_wp2_with (first
            | (go_at_call 6; refine (HD1.out.put HLk.out t x).mono ?_; rintro e w2 ⟨rfl, V2, D2, O2⟩
               have HD2 := Lib.hid D2
               have HA2 := Lib.hid (Blk.out HA.out O2 (fun e => by rcases e with e | e; exact hga.1 e; exact hga.2 e))
               have c20 := HA2.out.cell 0 rfl
               have c21 := HA2.out.cell 1 rfl
               clear D2 O2 c0 c1)
            | (go_at_call 7; refine (HD2.out.ref HLk.out t x).mono ?_; rintro e w3 ⟨v3, rfl, D3, B3⟩
               have HD3 := Lib.hid D3
               have HA3 := Lib.hid (HA2.out.kept B3)
               have c30 := HA3.out.cell 0 rfl
               clear D3 B3 c20 c21)
            | (go_at_call 8; refine (HD3.out.tell HLj.out HTN.out wb t).mono ?_; rintro e w4 ⟨rfl, B4⟩
               have HD4 := Lib.hid (HD3.out.kept B4)
               have HA4 := Lib.hid (HA3.out.kept B4)
               have c40 := HA4.out.cell 0 rfl
               clear B4 c30)
            | (go_at_call 9; refine (HD4.out.refTell HLj.out a0 t).mono ?_; rw [EW.out]; rintro e w5 ⟨rfl, B5⟩
               have HD5 := Lib.hid (HD4.out.kept B5)
               generalize lsL (ptL l t x) (nrL t - W) = res at *
               generalize decide (0 < (ptL l t x).length) = bs at *
               clear B5 c40)
            | (go_at_call 10; refine HD5.out.len.mono ?_; rintro e w6 ⟨rfl, rfl⟩)
            | (go_at_call 11; refine (HD5.out.refLen HLj.out).mono ?_; rintro e w7 ⟨rfl, B7⟩
               have HD7 := Lib.hid (HD5.out.kept B7)))

          go_roundg (len1 - (k + 1))
          case measure => omega
          case rel => exact ⟨k + 1, ptL l t x, _, by go_num, by omega, by omega, rfl, HLN.out, HTN.out, HD7.out⟩
        · have i2 : ¬ (k : Int) < 50 := by omega
          have i3 : (50 : Int) ≤ (k : Int) := by omega
          have HD1 := Lib.hid (HD.out.kept (new_alloc (new_refl wr) (.cells #[.int .i64 t, .int .i64 x] 26)))
          go_wp2_with fail
          go_meet
          exact ⟨l, V, by rw [HL.out]; exact hk5, HT.out, HD1.out⟩
      · obtain rfl : k = len1 := by omega
        go_wp2_with fail
        go_meet
        exact ⟨l, V, by rw [HL.out]; exact hk5, HT.out, HD.out⟩
  case rest =>
    obtain ⟨l, V, hl, ht, D⟩ := hcut
    have HL := Lib.hid (show l.length ≤ 1000000 by omega)
    have HT := Lib.hid ht
    have HD := Lib.hid D
    clear hl ht D A1 N
    go_wp2_with (first
      | (go_at_call 8; refine (HD.out.tell HL.out HT.out wb a2).mono ?_; rintro e w4 ⟨rfl, B4⟩
         have HD4 := Lib.hid (HD.out.kept B4))
      | (go_at_call 9; refine (HD4.out.refTell HL.out a0 a2).mono ?_; rw [EW.out]; rintro e w5 ⟨rfl, B5⟩
         have HD5 := Lib.hid (HD4.out.kept B5)
         generalize lsL l (nrL a2 - W) = res at *
         generalize decide (0 < l.length) = bs at *)
      | (go_at_call 12; refine (works21_any _).mono ?_; rintro e w8 ⟨rfl, B8⟩))
    go_ret
    exact ⟨rfl, new_then HD5.out.low B8⟩

set_option maxRecDepth 100000 in
theorem lifted (os : Os) (started : os.Started) (H : Type) (enc : TypeId × Value → H) :
    ReturnsInHanded {} Try.checked os 3 .any (Rows.leastFindsSpec.pre6 enc Try.prog Try.f3 Rows.leastFindsRow.domain false) (Rows.leastFindsSpec.post enc Try.prog Try.f3 false true false false) := by
  refine returnsInHanded_of_change (C := Try.checked) own started (by kernel_rfl) Try.func3
    (ChangeSpec.witness6 (enc := enc) (C := Try.checked) false ⟨#[], #[.int .i64 0, .slice none 0 0, .int .i64 0], []⟩ 8 (by kernel_rfl) (by kernel_rfl) (by kernel_rfl) (by kernel_rfl)) ?_
  intro W base args ds gs before hval0 hW hcnd _
  have hval : ∀ (j : Nat) t v, Try.f3.params[j]? = some t → args[j]? = some v → Value.okWide Try.prog W .any base t v := hval0
  have hW' := hW
  obtain ⟨p, q, hA0, hV, rfl, hfz, hnd⟩ := hW
  have hA : DataW.TrodAll enc Try.prog W 0 (fun _ => true) true Try.f3.params.toList args.toList ds p := hA0
  rw [Try.params3] at hA hval
  obtain ⟨v0, vs0, d0, ds0, p0, q0, hargs, rfl, rfl, h0, r0⟩ := trodAll_cons hA
  obtain ⟨v1, vs1, d1, ds1, p1, q1, rfl, rfl, rfl, h1, r1⟩ := trodAll_cons r0
  obtain ⟨v2, vs2, d2, ds2, p2, q2, rfl, rfl, rfl, h2, r2⟩ := trodAll_cons r1
  obtain ⟨rfl, rfl, rfl⟩ := trodAll_nil r2
  obtain rfl : args = #[v0, v1, v2] := by cases args; simp_all
  obtain ⟨rfl, rfl⟩ := trodVars_none hV
  have k0 := h0
  have lt0 : ∀ x ∈ p0, x.block < W.heap.size := by obtain ⟨m, hm⟩ := k0; exact DataW.trod_lt m _ _ _ hm
  obtain ⟨a0, rfl, _, _, w0⟩ := open_int Try.underlying2 (hval 0 2 v0 rfl rfl) h0
  have k1 := h1
  have lt1 : ∀ x ∈ p1, x.block < W.heap.size := by obtain ⟨m, hm⟩ := k1; exact DataW.trod_lt m _ _ _ hm
  obtain ⟨a1, len1, cap1, rfl⟩ := okWide_slice Try.underlying22 (hval 1 22 v1 rfl rfl)
  have w1 := isRows_of (n := 2) (ls := [(0, .inl .i64), (1, .inl .i64)]) Try.underlying22 (by kernel_rfl) (by kernel_rfl) (by decide) h1
  have k2 := h2
  have lt2 : ∀ x ∈ p2, x.block < W.heap.size := by obtain ⟨m, hm⟩ := k2; exact DataW.trod_lt m _ _ _ hm
  obtain ⟨a2, rfl, _, _, w2⟩ := open_int Try.underlying2 (hval 2 2 v2 rfl rfl) h2
  clear hA0 hval0
  refine (walk a0 a1 len1 cap1 a2 W w0 w1 w2).mono fun e W' ⟨he, bel⟩ => ?_
  subst he
  exact ⟨_, rfl, _, _, _, [], _, [], hW', trodAll_mk1 (shut_bool Try.underlying4 _), (trodAll_cons_mk (Below.trod laidOut (by kernel_rfl) (of_decide_eq_true (by kernel_rfl)) k0 bel lt0) (trodAll_cons_mk (Below.trod laidOut (by kernel_rfl) (of_decide_eq_true (by kernel_rfl)) k1 bel lt1) (trodAll_cons_mk (Below.trod laidOut (by kernel_rfl) (of_decide_eq_true (by kernel_rfl)) k2 bel lt2) trodAll_mk0))), rfl, bel.frame _, fun h => by cases h⟩

theorem over : Rows.leastFindsRow.holds Try.pinned (OpenSpec.ofChange Rows.leastFindsSpec) :=
  OpenClaim.holds_of_wide 3 Try.f3 rfl rfl rfl rfl rfl rfl rfl ⟨rfl, rfl, rfl, rfl, rfl⟩ rfl rfl rfl rfl rfl (by kernel_rfl) Try.func3 (by kernel_rfl)
    (of_decide_eq_true (by kernel_rfl)) (by unfold Func.isWrapper; first | (rw [if_pos (by decide +kernel)]; kernel_rfl) | (rw [if_neg (by decide +kernel)]; exact ⟨rfl, rfl⟩))
    (fun os started H enc _ => lifted os started H enc)
end leastFinds
theorem leastFinds_holds : Rows.LeastFindsSaid := leastFinds.over
end Go.Proofs.Ytphhcplellpikaa
