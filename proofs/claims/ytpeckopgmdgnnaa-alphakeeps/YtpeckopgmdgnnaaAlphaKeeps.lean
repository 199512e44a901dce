/- For every share and every list of pairs: round by round, of its first sixty pairs, one byte more than the first number acknowledged and the second number of them marked, each round ends, the share stays from 0 to One, with nothing marked it never rises, with all marked it never falls; and the chapter's example holds: AlphaKeeps returns true and changes nothing that was there. No conditions. -/
import Derived.Test.YtpeckopgmdgnnaaKit
import Derived.Test.YtpeckopgmdgnnaaAlpC
import Derived.Deep.CutBlock
namespace Go.Proofs.Ytpeckopgmdgnnaa
namespace alphaKeeps
open Go.ChangeShapes Go.WideShapes Go.ChangeAt Go.RowKit
open Go.ChangeMaps (open_string shut_string)
set_option linter.unusedVariables false

theorem pairU_at {w : World} {a : Option Addr} {len cap : Nat} (h : IsRows w a len cap 2 [(0, Sum.inl IntKind.u16), (1, Sum.inl IntKind.u16)]) (hp : 0 < len) :
    ∃ b off, a = some ⟨b, off, none⟩ ∧ ∀ i, i < len → ∃ t x : Int, w.cell? ⟨b, off + i * 2, none⟩ = some (.int .u16 t) ∧ w.cell? ⟨b, off + i * 2 + 1, none⟩ = some (.int .u16 x) ∧ (0 ≤ t ∧ t ≤ 65535) ∧ (0 ≤ x ∧ x ≤ 65535) := by
  obtain ⟨b, off, rfl, _, _, h⟩ := rows_at h hp
  refine ⟨b, off, rfl, fun i hi => ?_⟩
  obtain ⟨u0, h0, x0, rfl, p0⟩ := h i hi (0, .inl .u16) (by simp)
  obtain ⟨u1, h1, x1, rfl, p1⟩ := h i hi (1, .inl .u16) (by simp)
  have q0 := bounds_u16 p0
  have q1 := bounds_u16 p1
  exact ⟨x0, x1, h0, h1, by omega, by omega⟩
/-- The state behind so many rounds. -/
def KpI (w : World) (g len gh : Nat) (vi : Value) (wr : World) : Prop :=
  ∃ (k : Nat) (s e : Int), vi = .int .i64 (k : Int) ∧ len - k = gh ∧ k ≤ len ∧ (0 ≤ s ∧ s ≤ 1048576) ∧ e ≤ (k : Int) ∧ Blk wr g (apV ⟨s, 0, 0, e⟩) 23 ∧ Below w.heap.size w wr
theorem own : ownKnob Try.prog.godebug = none := by kernel_rfl
theorem laidOut : laidOutB Try.prog = true := by kernel_rfl

set_option maxHeartbeats 4000000 in
set_option maxRecDepth 100000 in
theorem walk (a0 : Int) (a1 : Option Addr) (len1 cap1 : Nat) (w : World) (w0 : (Lit.int .i64 a0).wf = true) (w1 : IsRows w a1 len1 cap1 2 [(0, .inl .u16), (1, .inl .u16)]) :
    Calls Try.prog 4 #[.int .i64 a0, .slice a1 len1 cap1] w fun e w' => e = .returned (.bool true) ∧ Below w.heap.size w w' := by
  clear w0
  have HX := Lib.hid w1
  have hr := shr_bd a0
  have ST : Hid (∀ w, Calls Try.prog 8 #[.int .i64 a0, .int .i64 0] w fun e w' => e = .returned (.agg #[.int .i64 (shr a0), .int .i64 0, .int .i64 0, .int .i64 0]) ∧ Below w.heap.size w w') := Lib.hid (fun w => start25_any a0 0 w)
  clear w1
  generalize shr a0 = r at *
  go_enter Try.func4, Try.ntmps4
  go_upto_region 2 with (go_at_call 8; refine (ST.out _).mono ?_; rintro e w1 ⟨rfl, B1⟩)
  obtain ⟨g, hg⟩ : ∃ g, w1.heap.size = g := ⟨_, rfl⟩
  obtain ⟨W, hW⟩ : ∃ W, w1.alloc (.cells #[.int .i64 r, .int .i64 0, .int .i64 0, .int .i64 0] 23) = W := ⟨_, rfl⟩
  have V : Hid (Blk W g (apV ⟨r, 0, 0, 0⟩) 23) := Lib.hid (by rw [← hW]; exact Blk.newAt hg _ _)
  have L : Hid (Below w.heap.size w W) := Lib.hid (by rw [← hW]; exact new_alloc B1 _)
  have LG : Hid (w.heap.size ≤ g) := Lib.hid (by rw [← hg]; exact B1.size)
  rw [hW, hg]
  clear hW hg B1 ST
  go_upto_block 0 with fail
  go_cut [] (fun wx => Below w.heap.size w wx)
  case first =>
    go_wp2_with fail
    go_loopg [16] len1 (fun gh vi wr => KpI w g len1 gh vi wr)
    case atStart => exact ⟨0, r, 0, rfl, by omega, Nat.zero_le _, hr, by omega, V.out, L.out⟩
    case round =>
      clear V L hr
      obtain ⟨k, s, e, rfl, hgh, hk, hs, he, hv, hL⟩ := hrel
      have HV := Lib.hid hv
      have HL := Lib.hid hL
      clear hv hL
      by_cases hlt : k < len1
      · have i0 : (0 : Int) ≤ (k : Int) := by omega
        have i1 : (k : Int) < (len1 : Int) := by omega
        obtain ⟨bl, off, rfl, hc⟩ := pairU_at HX.out (by omega)
        obtain ⟨x, y, e0, e1, bx, by_⟩ := hc k hlt
        replace e0 := cell_kept HL.out e0
        replace e1 := cell_kept HL.out e1
        clear hc
        have HV2 := Lib.hid (HV.out.alloc (.cells #[.int .u16 x, .int .u16 y] 34))
        have HN := Lib.hid (Blk.new wr [.int .u16 x, .int .u16 y] 34)
        have HL2 := Lib.hid (new_alloc HL.out (.cells #[.int .u16 x, .int .u16 y] 34))
        by_cases h5 : k < 60
        · have i2 : (k : Int) < 60 := by omega
          obtain ⟨t, ⟨b1, b2, b3, b4⟩, et⟩ := ap_next (s := s) (e := e) (a := x + 1) (m := y) (u := (k : Int)) (n := (k : Int)) hs (by omega) (by omega) by_.1
          have TK : Hid (∀ w, Calls Try.prog 6 #[.agg #[.int .i64 s, .int .i64 0, .int .i64 0, .int .i64 e], .int .i64 (x + 1), .int .i64 y, .int .i64 (k : Int), .int .i64 (k : Int)] w fun e w' => e = .returned (.tuple #[.agg #[.int .i64 t, .int .i64 0, .int .i64 0, .int .i64 (k : Int)], .bool true]) ∧ Below w.heap.size w w') := Lib.hid (fun w => by
            have h := take25_any ⟨s, 0, 0, e⟩ (x + 1) y (k : Int) (k : Int) w
            unfold ApWas at h
            rw [et, show apEnd (k : Int) (Ap.mk s 0 0 e).e = true by unfold apEnd; rw [decide_eq_false (show ¬ (k : Int) < e by omega)]; rfl] at h
            exact h)
          clear et
          go_upto_region 6 with fail
          clear e0 e1 HV HL
          obtain ⟨q, hq⟩ : ∃ q, wr.heap.size = q := ⟨_, rfl⟩
          obtain ⟨W2, hW2⟩ : ∃ W2, wr.alloc (.cells #[.int .u16 x, .int .u16 y] 34) = W2 := ⟨_, rfl⟩
          rw [hW2] at HV2 HN HL2 ⊢
          rw [hq] at HN ⊢
          clear hW2 hq
          have e0 := cell_by (HN.out.cell 0 rfl)
          have e1 := cell_by (HN.out.cell 1 rfl)
          refine wp_region_quiet_below (by kernel_rfl) (by kernel_rfl) ?_
          repeat (go_big_quiet_step (fail))
          refine wpQuiet_nil ?_
          intro wq hw'
          obtain ⟨⟨wp, Bq⟩, hw''⟩ := hw'
          subst hw''
          have HV3 := Lib.hid (HV2.out.kept Bq)
          have HL3 := Lib.hid (new_then HL2.out Bq)
          clear e0 e1 HV2 HN HL2 Bq
          have c0 := HV3.out.cell 0 rfl; have c1 := HV3.out.cell 1 rfl; have c2 := HV3.out.cell 2 rfl; have c3 := HV3.out.cell 3 rfl
          go_upto_region 8 with (go_at_call 6; refine (TK.out _).mono ?_; rintro e w3 ⟨rfl, B3⟩)
          obtain ⟨p, hp⟩ : ∃ p, w3.heap.size = p := ⟨_, rfl⟩
          obtain ⟨W3, hW3⟩ : ∃ W3, w3.alloc (.cells #[.int .i64 t, .int .i64 0, .int .i64 0, .int .i64 (k : Int)] 23) = W3 := ⟨_, rfl⟩
          have NB : Hid (Blk W3 p (apV ⟨t, 0, 0, (k : Int)⟩) 23) := Lib.hid (by rw [← hW3]; exact Blk.newAt hp _ _)
          have HV4 : Hid (Blk W3 g (apV ⟨s, 0, 0, e⟩) 23) := Lib.hid (by rw [← hW3]; exact (HV3.out.kept B3).alloc _)
          have HL4 : Hid (Below w.heap.size w W3) := Lib.hid (by rw [← hW3]; exact new_alloc (new_then HL3.out B3) _)
          rw [hW3, hp]
          clear hW3 hp c0 c1 c2 c3 HV3 HL3 B3 TK
          have VN := Lib.hid (ap_set HV4.out ⟨t, 0, 0, (k : Int)⟩)
          have LN := Lib.hid (lowA4 HL4.out LG.out (.int .i64 t) (.int .i64 0) (.int .i64 0) (.int .i64 (k : Int)))
          have c0 := HV4.out.cell 0 rfl; have c1 := HV4.out.cell 1 rfl; have c2 := HV4.out.cell 2 rfl; have c3 := HV4.out.cell 3 rfl; have f0 := HV4.out.frozen 0; have f1 := HV4.out.frozen 1; have f2 := HV4.out.frozen 2; have f3 := HV4.out.frozen 3; have n0 := NB.out.cell 0 rfl; have n1 := NB.out.cell 1 rfl; have n2 := NB.out.cell 2 rfl; have n3 := NB.out.cell 3 rfl
          have d1 : decide (t < 0) = false := decide_eq_false (by omega)
          have d2 : decide (1048576 < t) = false := decide_eq_false (by omega)
          have d1' : ¬ t < 0 := by omega
          have d2' : ¬ 1048576 < t := by omega
          by_cases hy : y = 0
          · have q1 : (y == 0) = true := by simp [hy]
            have q2 : decide (s < t) = false := decide_eq_false (by have := b3 hy; omega)
            have q2' : ¬ s < t := by have := b3 hy; omega
            have q3 : decide (x + 1 ≤ y) = false := decide_eq_false (by omega)
            have q3' : ¬ x + 1 ≤ y := by omega
            clear b3 b4
            go_wp2_with fail
            go_roundg (len1 - (k + 1))
            case measure => omega
            case rel => exact ⟨k + 1, t, (k : Int), by go_num, rfl, by omega, ⟨b1, b2⟩, by omega, VN.out, LN.out⟩
          · have q1 : (y == 0) = false := by simp [hy]
            by_cases hxy : x + 1 ≤ y
            · have q2 : decide (t < s) = false := decide_eq_false (by have := b4 hxy; omega)
              have q2' : ¬ t < s := by have := b4 hxy; omega
              have q3 : decide (x + 1 ≤ y) = true := decide_eq_true hxy
              clear b3 b4
              go_wp2_with fail
              go_roundg (len1 - (k + 1))
              case measure => omega
              case rel => exact ⟨k + 1, t, (k : Int), by go_num, rfl, by omega, ⟨b1, b2⟩, by omega, VN.out, LN.out⟩
            · have q3 : decide (x + 1 ≤ y) = false := decide_eq_false hxy
              clear b3 b4
              go_wp2_with fail
              go_roundg (len1 - (k + 1))
              case measure => omega
              case rel => exact ⟨k + 1, t, (k : Int), by go_num, rfl, by omega, ⟨b1, b2⟩, by omega, VN.out, LN.out⟩
        · have i2 : ¬ (k : Int) < 60 := by omega
          go_wp2_with fail
          go_meet
          exact HL2.out
      · have i1 : ¬ (k : Int) < (len1 : Int) := by omega
        go_wp2_with fail
        go_meet
        exact HL.out
  case rest =>
    have HL := Lib.hid hcut
    clear hcut V L HX
    go_wp2_with (go_at_call 12; refine (works25_any _).mono ?_; rintro e w8 ⟨rfl, B8⟩)
    go_ret
    exact ⟨rfl, new_then HL.out B8⟩

set_option maxRecDepth 100000 in
theorem lifted (os : Os) (started : os.Started) (H : Type) (enc : TypeId × Value → H) :
    ReturnsInHanded {} Try.checked os 4 .any (Rows.alphaKeepsSpec.pre6 enc Try.prog Try.f4 Rows.alphaKeepsRow.domain false) (Rows.alphaKeepsSpec.post enc Try.prog Try.f4 false true false false) := by
  refine returnsInHanded_of_change (C := Try.checked) own started (by kernel_rfl) Try.func4
    (ChangeSpec.witness6 (enc := enc) (C := Try.checked) false ⟨#[], #[.int .i64 0, .slice none 0 0], []⟩ 8 (by kernel_rfl) (by kernel_rfl) (by kernel_rfl) (by kernel_rfl)) ?_
  intro W base args ds gs before hval0 hW hcnd _
  have hval : ∀ (j : Nat) t v, Try.f4.params[j]? = some t → args[j]? = some v → Value.okWide Try.prog W .any base t v := hval0
  have hW' := hW
  obtain ⟨p, q, hA0, hV, rfl, hfz, hnd⟩ := hW
  have hA : DataW.TrodAll enc Try.prog W 0 (fun _ => true) true Try.f4.params.toList args.toList ds p := hA0
  rw [Try.params4] at hA hval
  obtain ⟨v0, vs0, d0, ds0, p0, q0, hargs, rfl, rfl, h0, r0⟩ := trodAll_cons hA
  obtain ⟨v1, vs1, d1, ds1, p1, q1, rfl, rfl, rfl, h1, r1⟩ := trodAll_cons r0
  obtain ⟨rfl, rfl, rfl⟩ := trodAll_nil r1
  obtain rfl : args = #[v0, v1] := by cases args; simp_all
  obtain ⟨rfl, rfl⟩ := trodVars_none hV
  have k0 := h0
  have lt0 : ∀ x ∈ p0, x.block < W.heap.size := by obtain ⟨m, hm⟩ := k0; exact DataW.trod_lt m _ _ _ hm
  obtain ⟨a0, rfl, _, _, w0⟩ := open_int Try.underlying2 (hval 0 2 v0 rfl rfl) h0
  have k1 := h1
  have lt1 : ∀ x ∈ p1, x.block < W.heap.size := by obtain ⟨m, hm⟩ := k1; exact DataW.trod_lt m _ _ _ hm
  obtain ⟨a1, len1, cap1, rfl⟩ := okWide_slice Try.underlying32 (hval 1 32 v1 rfl rfl)
  have w1 := isRows_of (n := 2) (ls := [(0, .inl .u16), (1, .inl .u16)]) Try.underlying32 (by kernel_rfl) (by kernel_rfl) (by decide) h1
  clear hA0 hval0
  refine (walk a0 a1 len1 cap1 W w0 w1).mono fun e W' ⟨he, bel⟩ => ?_
  subst he
  exact ⟨_, rfl, _, _, _, [], _, [], hW', trodAll_mk1 (shut_bool Try.underlying4 _), (trodAll_cons_mk (Below.trod laidOut (by kernel_rfl) (of_decide_eq_true (by kernel_rfl)) k0 bel lt0) (trodAll_cons_mk (Below.trod laidOut (by kernel_rfl) (of_decide_eq_true (by kernel_rfl)) k1 bel lt1) trodAll_mk0)), rfl, bel.frame _, fun h => by cases h⟩

theorem over : Rows.alphaKeepsRow.holds Try.pinned (OpenSpec.ofChange Rows.alphaKeepsSpec) :=
  OpenClaim.holds_of_wide 4 Try.f4 rfl rfl rfl rfl rfl rfl rfl ⟨rfl, rfl, rfl, rfl, rfl⟩ rfl rfl rfl rfl rfl (by kernel_rfl) Try.func4 (by kernel_rfl)
    (of_decide_eq_true (by kernel_rfl)) (by unfold Func.isWrapper; first | (rw [if_pos (by decide +kernel)]; kernel_rfl) | (rw [if_neg (by decide +kernel)]; exact ⟨rfl, rfl⟩))
    (fun os started H enc _ => lifted os started H enc)
end alphaKeeps
theorem alphaKeeps_holds : Rows.AlphaKeepsSaid := alphaKeeps.over
end Go.Proofs.Ytpeckopgmdgnnaa
