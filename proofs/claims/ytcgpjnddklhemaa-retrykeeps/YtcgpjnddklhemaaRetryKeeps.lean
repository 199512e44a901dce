/- For every number that is there and every list of pairs: of its first eighty pairs, taken one behind another from a state that has nothing else, up to where all is there never falls and rises where it is told, and from a loss that is met to the next one it comes up to where was sent when the first one was met; and the chapter's example holds: RetryKeeps returns true and changes nothing that was there. No conditions. -/
import Derived.Test.YtcgpjnddklhemaaKit
import Derived.Test.YtcgpjnddklhemaaRtyC
import Derived.Deep.CutBlock
namespace Go.Proofs.Ytcgpjnddklhemaa
namespace retryKeeps
open Go.ChangeShapes Go.WideShapes Go.ChangeAt Go.RowKit
open Go.ChangeMaps (open_string shut_string)
set_option linter.unusedVariables false

theorem pairY_at {w : World} {a : Option Addr} {len cap : Nat} (h : IsRows w a len cap 2 [(0, Sum.inl IntKind.i64), (1, Sum.inl IntKind.i64)]) (hp : 0 < len) :
    ∃ b off, a = some ⟨b, off, none⟩ ∧ ∀ i, i < len → ∃ t x : Int, w.cell? ⟨b, off + i * 2, none⟩ = some (.int .i64 t) ∧ w.cell? ⟨b, off + i * 2 + 1, none⟩ = some (.int .i64 x) := by
  obtain ⟨b, off, rfl, _, _, h⟩ := rows_at h hp
  refine ⟨b, off, rfl, fun i hi => ?_⟩
  obtain ⟨u0, h0, x0, rfl, p0⟩ := h i hi (0, .inl .i64) (by simp)
  obtain ⟨u1, h1, x1, rfl, p1⟩ := h i hi (1, .inl .i64) (by simp)
  exact ⟨x0, x1, h0, h1⟩
/-- Was a loss met: it is awaited, or what is there came up to it. -/
def RyMet (c : Ry) (E : Bool) (P : Int) : Prop := E = true → (c.i = true ∧ c.p = P) ∨ P ≤ c.a
/-- The state behind so many. -/
def RkI (w : World) (g len gh : Nat) (ve vp vi : Value) (wr : World) : Prop :=
  ∃ (k : Nat) (c : Ry) (E : Bool) (P : Int), vi = .int .i64 (k : Int) ∧ ve = .bool E ∧ vp = .int .i64 P ∧ len - k = gh ∧ k ≤ len ∧ RyMet c E P ∧ Blk wr g (ryV c) 23 ∧ Below w.heap.size w wr
abbrev twY (x y : Int) : List Value := [.int .i64 x, .int .i64 y]
theorem own : ownKnob Try.prog.godebug = none := by kernel_rfl
theorem laidOut : laidOutB Try.prog = true := by kernel_rfl

set_option maxHeartbeats 4000000 in
set_option maxRecDepth 100000 in
theorem walk (a0 : Int) (a1 : Option Addr) (len1 cap1 : Nat) (w : World) (w0 : (Lit.int .i64 a0).wf = true) (w1 : IsRows w a1 len1 cap1 2 [(0, .inl .i64), (1, .inl .i64)]) :
    Calls Try.prog 4 #[.int .i64 a0, .slice a1 len1 cap1] w fun e w' => e = .returned (.bool true) ∧ Below w.heap.size w w' := by
  clear w0
  have HX := Lib.hid w1
  clear w1
  go_enter Try.func4, Try.ntmps4
  go_upto_region 2 with fail
  obtain ⟨g, hg⟩ : ∃ g, w.heap.size = g := ⟨_, rfl⟩
  obtain ⟨W, hW⟩ : ∃ W, w.alloc (.cells #[.int .i64 a0, .int .i64 0, .int .i64 0, .bool false] 23) = W := ⟨_, rfl⟩
  have V : Hid (Blk W g (ryV ⟨a0, 0, 0, false⟩) 23) := Lib.hid (by rw [← hW]; exact Blk.newAt hg _ _)
  have L : Hid (Below w.heap.size w W) := Lib.hid (by rw [← hW]; exact new_alloc (new_refl w) _)
  have LG : Hid (w.heap.size ≤ g) := Lib.hid (by omega)
  rw [hW, hg]
  clear hW hg
  go_upto_block 0 with fail
  go_cut [] (fun wx => Below w.heap.size w wx)
  case first =>
    go_wp2_with fail
    go_loopg [6, 7, 16] len1 (fun gh ve vp vi wr => RkI w g len1 gh ve vp vi wr)
    case atStart => exact ⟨0, ⟨a0, 0, 0, false⟩, false, 0, rfl, rfl, rfl, by omega, Nat.zero_le _, (fun h => by cases h), V.out, L.out⟩
    case round =>
      clear V L
      obtain ⟨k, c, E, P, rfl, rfl, rfl, hgh, hk, hm, hv, hL⟩ := hrel
      have HV := Lib.hid hv
      have HL := Lib.hid hL
      have HM := Lib.hid hm
      clear hv hL hm
      by_cases hlt : k < len1
      · have i0 : (0 : Int) ≤ (k : Int) := by omega
        have i1 : (k : Int) < (len1 : Int) := by omega
        obtain ⟨bl, off, rfl, hc⟩ := pairY_at HX.out (by omega)
        obtain ⟨u, s, e0, e1⟩ := hc k hlt
        replace e0 := cell_kept HL.out e0
        replace e1 := cell_kept HL.out e1
        clear hc
        have HV2 := Lib.hid (HV.out.alloc (.cells #[.int .i64 u, .int .i64 s] 30))
        have HN := Lib.hid (Blk.new wr (twY u s) 30)
        have HL2 := Lib.hid (new_alloc HL.out (.cells #[.int .i64 u, .int .i64 s] 30))
        by_cases h5 : k < 80
        · have i2 : (k : Int) < 80 := by omega
          have i3 : ¬ (80 : Int) ≤ (k : Int) := by omega
          obtain ⟨D, x, hD⟩ := ry_there c u s
          have TK : Hid (∀ w, Calls Try.prog 5 #[.agg #[.int .i64 c.a, .int .i64 c.d, .int .i64 c.p, .bool c.i], .int .i64 u, .int .i64 s] w fun e w' => e = .returned (.tuple #[.agg #[.int .i64 D.a, .int .i64 D.d, .int .i64 D.p, .bool D.i], .int .i64 x]) ∧ Below w.heap.size w w') := Lib.hid (fun w => take28_any c.a c.d c.p c.i u s D x w hD)
          obtain ⟨n1, n3, n2, n4⟩ := ry_next hD
          have N2 := Lib.hid n2
          have N4 := Lib.hid n4
          clear hD n2 n4
          have d1 : decide (D.a < c.a) = false := decide_eq_false (by omega)
          have d1' : ¬ D.a < c.a := by omega
          go_upto_region 8 with fail
          clear e0 e1 HV HL
          obtain ⟨q, hq⟩ : ∃ q, wr.heap.size = q := ⟨_, rfl⟩
          obtain ⟨W2, hW2⟩ : ∃ W2, wr.alloc (.cells #[.int .i64 u, .int .i64 s] 30) = W2 := ⟨_, rfl⟩
          rw [hW2] at HV2 HN HL2 ⊢
          rw [hq] at HN ⊢
          clear hW2 hq
          have c0 := HV2.out.cell 0 rfl; have c1 := HV2.out.cell 1 rfl; have c2 := HV2.out.cell 2 rfl; have c3 := HV2.out.cell 3 rfl; have m0 := HN.out.cell 0 rfl; have m1 := HN.out.cell 1 rfl
          go_upto_region 9 with (go_at_call 5; refine (TK.out _).mono ?_; rintro e w3 ⟨rfl, B3⟩)
          obtain ⟨p, hp⟩ : ∃ p, w3.heap.size = p := ⟨_, rfl⟩
          obtain ⟨W3, hW3⟩ : ∃ W3, w3.alloc (.cells #[.int .i64 D.a, .int .i64 D.d, .int .i64 D.p, .bool D.i] 23) = W3 := ⟨_, rfl⟩
          have NB : Hid (Blk W3 p (ryV D) 23) := Lib.hid (by rw [← hW3]; exact Blk.newAt hp _ _)
          have MB : Hid (Blk W3 q (twY u s) 30) := Lib.hid (by rw [← hW3]; exact (HN.out.kept B3).alloc _)
          have HV4 : Hid (Blk W3 g (ryV c) 23) := Lib.hid (by rw [← hW3]; exact (HV2.out.kept B3).alloc _)
          have HL4 : Hid (Below w.heap.size w W3) := Lib.hid (by rw [← hW3]; exact new_alloc (new_then HL2.out B3) _)
          rw [hW3, hp]
          clear hW3 hp c0 c1 c2 c3 m0 m1 HV2 HN HL2 B3 TK
          have VN := Lib.hid (ry_set HV4.out D)
          have LN := Lib.hid (lowY4 HL4.out LG.out (.int .i64 D.a) (.int .i64 D.d) (.int .i64 D.p) (.bool D.i))
          have c0 := HV4.out.cell 0 rfl; have c1 := HV4.out.cell 1 rfl; have c2 := HV4.out.cell 2 rfl; have c3 := HV4.out.cell 3 rfl; have f0 := HV4.out.frozen 0; have f1 := HV4.out.frozen 1; have f2 := HV4.out.frozen 2; have f3 := HV4.out.frozen 3; have y0 := NB.out.cell 0 rfl; have y1 := NB.out.cell 1 rfl; have y2 := NB.out.cell 2 rfl; have y3 := NB.out.cell 3 rfl; have m0 := MB.out.cell 0 rfl; have m1 := MB.out.cell 1 rfl
          have key : (x = 1) ∨ (x = 2) ∨ (x ≠ 1 ∧ x ≠ 2) := by omega
          rcases key with rfl | rfl | ⟨hx1, hx2⟩
          · have q1 : (D.a == c.a) = false := by have := n3 rfl; simp; omega
            have HM2 : Hid (RyMet D E P) := Lib.hid (fun h => N4.out P (HM.out h) (by decide))
            clear n3
            go_wp2_with fail
            go_roundg (len1 - (k + 1))
            case measure => omega
            case rel => exact ⟨k + 1, D, E, P, by go_num, rfl, rfl, by omega, by omega, HM2.out, VN.out, LN.out⟩
          · obtain ⟨t1, t2, t3⟩ := N2.out rfl
            have HM2 : Hid (RyMet D true s) := Lib.hid (fun _ => .inl ⟨t2, t3⟩)
            have HT1 := Lib.hid t1
            clear t1 t2 t3
            cases E with
            | false =>
              clear n3
              go_wp2_with fail
              go_roundg (len1 - (k + 1))
              case measure => omega
              case rel => exact ⟨k + 1, D, true, s, by go_num, rfl, rfl, by omega, by omega, HM2.out, VN.out, LN.out⟩
            | true =>
              have q2 : ¬ D.a < P := by
                rcases HM.out rfl with ⟨h, _⟩ | h
                · rw [HT1.out] at h; cases h
                · omega
              have q2' : decide (D.a < P) = false := decide_eq_false q2
              clear n3
              go_wp2_with fail
              go_roundg (len1 - (k + 1))
              case measure => omega
              case rel => exact ⟨k + 1, D, true, s, by go_num, rfl, rfl, by omega, by omega, HM2.out, VN.out, LN.out⟩
          · have q1 : (x == 1) = false := by simp [hx1]
            have q2 : (x == 2) = false := by simp [hx2]
            have HM2 : Hid (RyMet D E P) := Lib.hid (fun h => N4.out P (HM.out h) hx2)
            clear n3
            go_wp2_with fail
            go_roundg (len1 - (k + 1))
            case measure => omega
            case rel => exact ⟨k + 1, D, E, P, by go_num, rfl, rfl, by omega, by omega, HM2.out, VN.out, LN.out⟩
        · have i2 : ¬ (k : Int) < 80 := by omega
          have i3 : (80 : Int) ≤ (k : Int) := by omega
          go_wp2_with fail
          go_meet
          exact HL2.out
      · have i1 : ¬ (k : Int) < (len1 : Int) := by omega
        go_wp2_with fail
        go_meet
        exact HL.out
  case rest =>
    have HL := Lib.hid hcut
    clear hcut V L HX
    go_wp2_with (go_at_call 8; refine (works28_any _).mono ?_; rintro e w8 ⟨rfl, B8⟩)
    go_ret
    exact ⟨rfl, new_then HL.out B8⟩

set_option maxRecDepth 100000 in
theorem lifted (os : Os) (started : os.Started) (H : Type) (enc : TypeId × Value → H) :
    ReturnsInHanded {} Try.checked os 4 .any (Rows.retryKeepsSpec.pre6 enc Try.prog Try.f4 Rows.retryKeepsRow.domain false) (Rows.retryKeepsSpec.post enc Try.prog Try.f4 false true false false) := by
  refine returnsInHanded_of_change (C := Try.checked) own started (by kernel_rfl) Try.func4
    (ChangeSpec.witness6 (enc := enc) (C := Try.checked) false ⟨#[], #[.int .i64 0, .slice none 0 0], []⟩ 8 (by kernel_rfl) (by kernel_rfl) (by kernel_rfl) (by kernel_rfl)) ?_
  intro W base args ds gs before hval0 hW hcnd _
  have hval : ∀ (j : Nat) t v, Try.f4.params[j]? = some t → args[j]? = some v → Value.okWide Try.prog W .any base t v := hval0
  have hW' := hW
  obtain ⟨p, q, hA0, hV, rfl, hfz, hnd⟩ := hW
  have hA : DataW.TrodAll enc Try.prog W 0 (fun _ => true) true Try.f4.params.toList args.toList ds p := hA0
  rw [Try.params4] at hA hval
  obtain ⟨v0, vs0, d0, ds0, p0, q0, hargs, rfl, rfl, h0, r0⟩ := trodAll_cons hA
  obtain ⟨v1, vs1, d1, ds1, p1, q1, rfl, rfl, rfl, h1, r1⟩ := trodAll_cons r0
  obtain ⟨rfl, rfl, rfl⟩ := trodAll_nil r1
  obtain rfl : args = #[v0, v1] := by cases args; simp_all
  obtain ⟨rfl, rfl⟩ := trodVars_none hV
  have k0 := h0
  have lt0 : ∀ x ∈ p0, x.block < W.heap.size := by obtain ⟨m, hm⟩ := k0; exact DataW.trod_lt m _ _ _ hm
  obtain ⟨a0, rfl, _, _, w0⟩ := open_int Try.underlying2 (hval 0 2 v0 rfl rfl) h0
  have k1 := h1
  have lt1 : ∀ x ∈ p1, x.block < W.heap.size := by obtain ⟨m, hm⟩ := k1; exact DataW.trod_lt m _ _ _ hm
  obtain ⟨a1, len1, cap1, rfl⟩ := okWide_slice Try.underlying29 (hval 1 29 v1 rfl rfl)
  have w1 := isRows_of (n := 2) (ls := [(0, .inl .i64), (1, .inl .i64)]) Try.underlying29 (by kernel_rfl) (by kernel_rfl) (by decide) h1
  clear hA0 hval0
  refine (walk a0 a1 len1 cap1 W w0 w1).mono fun e W' ⟨he, bel⟩ => ?_
  subst he
  exact ⟨_, rfl, _, _, _, [], _, [], hW', trodAll_mk1 (shut_bool Try.underlying4 _), (trodAll_cons_mk (Below.trod laidOut (by kernel_rfl) (of_decide_eq_true (by kernel_rfl)) k0 bel lt0) (trodAll_cons_mk (Below.trod laidOut (by kernel_rfl) (of_decide_eq_true (by kernel_rfl)) k1 bel lt1) trodAll_mk0)), rfl, bel.frame _, fun h => by cases h⟩

theorem over : Rows.retryKeepsRow.holds Try.pinned (OpenSpec.ofChange Rows.retryKeepsSpec) :=
  OpenClaim.holds_of_wide 4 Try.f4 rfl rfl rfl rfl rfl rfl rfl ⟨rfl, rfl, rfl, rfl, rfl⟩ rfl rfl rfl rfl rfl (by kernel_rfl) Try.func4 (by kernel_rfl)
    (of_decide_eq_true (by kernel_rfl)) (by unfold Func.isWrapper; first | (rw [if_pos (by decide +kernel)]; kernel_rfl) | (rw [if_neg (by decide +kernel)]; exact ⟨rfl, rfl⟩))
    (fun os started H enc _ => lifted os started H enc)
end retryKeeps
theorem retryKeeps_holds : Rows.RetryKeepsSaid := retryKeeps.over
end Go.Proofs.Ytcgpjnddklhemaa
