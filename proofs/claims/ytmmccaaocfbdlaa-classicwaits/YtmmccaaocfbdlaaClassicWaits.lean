/- For every list of rounds and every limit: of its first sixty rounds, one behind another from nothing on, the score keeps from 0 to twice One, it rises at no round that is not deep and falls at no deep one, and with fewer than four deep ones the queue is no old one; and the chapter's example holds: ClassicWaits returns true and changes nothing that was there. No conditions. -/
import Derived.Test.YtmmccaaocfbdlaaKit
import Derived.Test.YtmmccaaocfbdlaaClsB
import Derived.Deep.CutBlock
namespace Go.Proofs.Ytmmccaaocfbdlaa
namespace classicWaits
open Go.ChangeShapes Go.WideShapes Go.ChangeAt Go.RowKit
open Go.ChangeMaps (open_string shut_string)
set_option linter.unusedVariables false

theorem rd27_at {w : World} {a : Option Addr} {len cap : Nat} (h : IsRows w a len cap 2 [(0, Sum.inr false), (1, Sum.inl IntKind.i64)]) (hp : 0 < len) :
    ∃ b off, a = some ⟨b, off, none⟩ ∧ ∀ i, i < len → ∃ (p : Bool) (x : Int), w.cell? ⟨b, off + i * 2, none⟩ = some (.bool p) ∧ w.cell? ⟨b, off + i * 2 + 1, none⟩ = some (.int .i64 x) ∧ (-9223372036854775808 ≤ x ∧ x ≤ 9223372036854775807) := by
  obtain ⟨b, off, rfl, _, _, h⟩ := rows_at h hp
  refine ⟨b, off, rfl, fun i hi => ?_⟩
  obtain ⟨u, hu, p, rfl⟩ := h i hi (0, .inr false) (by simp)
  obtain ⟨v, hv, x, rfl, p1⟩ := h i hi (1, .inl .i64) (by simp)
  have q1 := bounds_i64 p1
  exact ⟨p, x, hu, hv, by omega⟩
/-- The score behind so many rounds, and how many of them were deep. -/
def CwI (w : World) (g len gh : Nat) (vd vi : Value) (wr : World) : Prop :=
  ∃ (k n : Nat) (s : Int), vi = .int .i64 (k : Int) ∧ vd = .int .i64 (n : Int) ∧ len - k = gh ∧ k ≤ len ∧ n ≤ k ∧ (0 ≤ s ∧ s ≤ 2097152) ∧ s ≤ 262144 * (n : Int) ∧ Blk wr g [.int .i64 s] 23 ∧ Below w.heap.size w wr
theorem own : ownKnob Try.prog.godebug = none := by kernel_rfl
theorem laidOut : laidOutB Try.prog = true := by kernel_rfl

set_option maxHeartbeats 4000000 in
set_option maxRecDepth 100000 in
theorem walk (a0 : Option Addr) (len0 cap0 : Nat) (a1 : Int) (w : World) (w0 : IsRows w a0 len0 cap0 2 [(0, .inr false), (1, .inl .i64)]) (w1 : (Lit.int .i64 a1).wf = true) :
    Calls Try.prog 4 #[.slice a0 len0 cap0, .int .i64 a1] w fun e w' => e = .returned (.bool true) ∧ Below w.heap.size w w' := by
  have bl := bounds_i64 w1
  have HX := Lib.hid w0
  have HL0 : Hid (-9223372036854775808 ≤ a1 ∧ a1 ≤ 9223372036854775807) := Lib.hid (by omega)
  obtain ⟨m1, m2, m3⟩ := rnMax_is (max_clL a1)
  have HN : Hid (∀ (p : Bool) (x s : Int) (n : Nat), 0 ≤ s → s ≤ 2097152 → s ≤ 262144 * (n : Int) → ClNext s n (clR s p x a1) (p && !decide (x ≤ clL a1))) := Lib.hid (fun p x s n h0 h1 h2 => cl_next p h0 h1 h2)
  generalize clL a1 = C at *
  clear w0 w1 bl
  obtain ⟨g, hg⟩ : ∃ g, w.heap.size = g := ⟨_, rfl⟩
  obtain ⟨W, hW⟩ : ∃ W, w.alloc (.cells #[.int .i64 0] 23) = W := ⟨_, rfl⟩
  have V : Hid (Blk W g [.int .i64 0] 23) := Lib.hid (by rw [← hW]; exact Blk.newAt hg _ _)
  have L : Hid (Below w.heap.size w W) := Lib.hid (by rw [← hW]; exact new_alloc (new_refl w) _)
  have LG : Hid (w.heap.size ≤ g) := Lib.hid (by omega)
  go_enter Try.func4, Try.ntmps4
  go_upto_region 2 with fail
  clear hW hg
  go_upto_block 0 with fail
  go_cut [] (fun wx => Below w.heap.size w wx)
  case first =>
    go_wp2_with fail
    go_loopg [6, 13] len0 (fun gh vd vi wr => CwI w g len0 gh vd vi wr)
    case atStart => exact ⟨0, 0, 0, rfl, rfl, by omega, Nat.zero_le _, Nat.le_refl _, by omega, by omega, V.out, L.out⟩
    case round =>
      clear V L
      obtain ⟨k, n, s, rfl, rfl, hgh, hk, hn, hs, hb, hv, hL⟩ := hrel
      have HV := Lib.hid hv
      have HL := Lib.hid hL
      clear hv hL
      by_cases hlt : k < len0
      · have i0 : (0 : Int) ≤ (k : Int) := by omega
        have i1 : (k : Int) < (len0 : Int) := by omega
        obtain ⟨bk, off, rfl, hc⟩ := rd27_at HX.out (by omega)
        obtain ⟨p, x, e0, e1, bx⟩ := hc k hlt
        replace e0 := cell_kept HL.out e0
        replace e1 := cell_kept HL.out e1
        clear hc
        have HV2 := Lib.hid (HV.out.alloc (.cells #[.bool p, .int .i64 x] 31))
        have NR := Lib.hid (Blk.new wr [.bool p, .int .i64 x] 31)
        have HL2 := Lib.hid (new_alloc HL.out (.cells #[.bool p, .int .i64 x] 31))
        by_cases h5 : k < 60
        · have i2 : (k : Int) < 60 := by omega
          have i3 : ¬ (60 : Int) ≤ (k : Int) := by omega
          obtain ⟨t, ht⟩ : ∃ t, clR s p x a1 = t := ⟨_, rfl⟩
          have RO : Hid (∀ w, Calls Try.prog 5 #[.agg #[.int .i64 s], .bool p, .int .i64 x, .int .i64 a1] w fun e w' => e = .returned (.agg #[.int .i64 t]) ∧ Below w.heap.size w w') := Lib.hid (fun w => by
            have h := round27_any s p x a1 w bx HL0.out
            rwa [ht] at h)
          have NX := HN.out p x s n hs.1 hs.2 hb
          rw [ht] at NX
          clear ht bx
          obtain ⟨t0, t1, tu, td⟩ := NX
          have OL : Hid (∀ w, Calls Try.prog 7 #[.agg #[.int .i64 t]] w fun e w' => e = .returned (.bool (decide (1048576 ≤ t))) ∧ Below w.heap.size w w') := Lib.hid (fun w => old27_any t w)
          have d1 : decide (t < 0) = false := decide_eq_false (by omega)
          have d2 : decide (2097152 < t) = false := decide_eq_false (by omega)
          have d1' : ¬ t < 0 := by omega
          have d2' : ¬ 2097152 < t := by omega
          go_upto_region 6 with fail
          clear e0 e1 HV HL
          obtain ⟨q, hq⟩ : ∃ q, wr.heap.size = q := ⟨_, rfl⟩
          obtain ⟨W2, hW2⟩ : ∃ W2, wr.alloc (.cells #[.bool p, .int .i64 x] 31) = W2 := ⟨_, rfl⟩
          rw [hW2] at HV2 NR HL2 ⊢
          rw [hq] at NR ⊢
          clear hW2 hq
          have key : ((p = false ∧ True) ∨ (p = true ∧ x ≤ C)) ∨ (p = true ∧ ¬ x ≤ C) := by
            cases p <;> by_cases h : x ≤ C <;> simp [h]
          rcases key with key | ⟨rfl, hx⟩
          · rcases key with ⟨rfl, hx⟩ | ⟨rfl, hx⟩
            · have td0 := td rfl
              have s1 : decide (s < t) = false := decide_eq_false (by omega)
              have s1' : ¬ s < t := by omega
              clear td tu hx HN
              have r0 := NR.out.cell 0 rfl; have r1 := NR.out.cell 1 rfl; have c0 := HV2.out.cell 0 rfl
              go_upto_region 11 with (go_at_call 5; refine (RO.out _).mono ?_; rintro e w3 ⟨rfl, B3⟩)
              obtain ⟨z, hz⟩ : ∃ z, w3.heap.size = z := ⟨_, rfl⟩
              obtain ⟨W3, hW3⟩ : ∃ W3, w3.alloc (.cells #[.int .i64 t] 23) = W3 := ⟨_, rfl⟩
              have NB : Hid (Blk W3 z [.int .i64 t] 23) := Lib.hid (by rw [← hW3]; exact Blk.newAt hz _ _)
              have HV4 : Hid (Blk W3 g [.int .i64 s] 23) := Lib.hid (by rw [← hW3]; exact (HV2.out.kept B3).alloc _)
              have HL4 : Hid (Below w.heap.size w W3) := Lib.hid (by rw [← hW3]; exact new_alloc (new_then HL2.out B3) _)
              rw [hW3, hz]
              clear hW3 hz c0 r0 r1 HV2 HL2 NR B3 RO
              have c0 := HV4.out.cell 0 rfl; have n0 := NB.out.cell 0 rfl
              by_cases ho : 1048576 ≤ t
              · have o1 : decide (((n : Int)) < 4) = false := decide_eq_false (by omega)
                have o1' : ¬ ((n : Int)) < 4 := by omega
                rw [decide_eq_true ho] at OL
                go_wp2_with (go_at_call 7; refine (OL.out _).mono ?_; rintro e w4 ⟨rfl, B4⟩
                             have HV5 := Lib.hid (HV4.out.kept B4)
                             have NB5 := Lib.hid (NB.out.kept B4)
                             have HL5 := Lib.hid (new_then HL4.out B4)
                             have VN := Lib.hid (HV5.out.set 0 (.int .i64 t))
                             have LN := Lib.hid (new_set HL5.out (p := ⟨g, 0, none⟩) LG.out (.int .i64 t))
                             have v0 := HV5.out.cell 0 rfl; have f0 := HV5.out.frozen 0; have y0 := NB5.out.cell 0 rfl)
                go_roundg (len0 - (k + 1))
                case measure => omega
                case rel => exact ⟨k + 1, n, t, by go_num, rfl, rfl, by omega, by omega, ⟨t0, t1⟩, by omega, VN.out, LN.out⟩
              · rw [decide_eq_false ho] at OL
                go_wp2_with (go_at_call 7; refine (OL.out _).mono ?_; rintro e w4 ⟨rfl, B4⟩
                             have HV5 := Lib.hid (HV4.out.kept B4)
                             have NB5 := Lib.hid (NB.out.kept B4)
                             have HL5 := Lib.hid (new_then HL4.out B4)
                             have VN := Lib.hid (HV5.out.set 0 (.int .i64 t))
                             have LN := Lib.hid (new_set HL5.out (p := ⟨g, 0, none⟩) LG.out (.int .i64 t))
                             have v0 := HV5.out.cell 0 rfl; have f0 := HV5.out.frozen 0; have y0 := NB5.out.cell 0 rfl)
                go_roundg (len0 - (k + 1))
                case measure => omega
                case rel => exact ⟨k + 1, n, t, by go_num, rfl, rfl, by omega, by omega, ⟨t0, t1⟩, by omega, VN.out, LN.out⟩
            · have td0 := td (by simp [hx])
              have q1 : decide (C < x) = false := decide_eq_false (by omega)
              have q1' : ¬ C < x := by omega
              have s1 : decide (s < t) = false := decide_eq_false (by omega)
              have s1' : ¬ s < t := by omega
              clear td tu hx HN
              have r0 := NR.out.cell 0 rfl; have r1 := NR.out.cell 1 rfl; have c0 := HV2.out.cell 0 rfl
              go_upto_region 11 with (go_at_call 5; refine (RO.out _).mono ?_; rintro e w3 ⟨rfl, B3⟩)
              obtain ⟨z, hz⟩ : ∃ z, w3.heap.size = z := ⟨_, rfl⟩
              obtain ⟨W3, hW3⟩ : ∃ W3, w3.alloc (.cells #[.int .i64 t] 23) = W3 := ⟨_, rfl⟩
              have NB : Hid (Blk W3 z [.int .i64 t] 23) := Lib.hid (by rw [← hW3]; exact Blk.newAt hz _ _)
              have HV4 : Hid (Blk W3 g [.int .i64 s] 23) := Lib.hid (by rw [← hW3]; exact (HV2.out.kept B3).alloc _)
              have HL4 : Hid (Below w.heap.size w W3) := Lib.hid (by rw [← hW3]; exact new_alloc (new_then HL2.out B3) _)
              rw [hW3, hz]
              clear hW3 hz c0 r0 r1 HV2 HL2 NR B3 RO
              have c0 := HV4.out.cell 0 rfl; have n0 := NB.out.cell 0 rfl
              by_cases ho : 1048576 ≤ t
              · have o1 : decide (((n : Int)) < 4) = false := decide_eq_false (by omega)
                have o1' : ¬ ((n : Int)) < 4 := by omega
                rw [decide_eq_true ho] at OL
                go_wp2_with (go_at_call 7; refine (OL.out _).mono ?_; rintro e w4 ⟨rfl, B4⟩
                             have HV5 := Lib.hid (HV4.out.kept B4)
                             have NB5 := Lib.hid (NB.out.kept B4)
                             have HL5 := Lib.hid (new_then HL4.out B4)
                             have VN := Lib.hid (HV5.out.set 0 (.int .i64 t))
                             have LN := Lib.hid (new_set HL5.out (p := ⟨g, 0, none⟩) LG.out (.int .i64 t))
                             have v0 := HV5.out.cell 0 rfl; have f0 := HV5.out.frozen 0; have y0 := NB5.out.cell 0 rfl)
                go_roundg (len0 - (k + 1))
                case measure => omega
                case rel => exact ⟨k + 1, n, t, by go_num, rfl, rfl, by omega, by omega, ⟨t0, t1⟩, by omega, VN.out, LN.out⟩
              · rw [decide_eq_false ho] at OL
                go_wp2_with (go_at_call 7; refine (OL.out _).mono ?_; rintro e w4 ⟨rfl, B4⟩
                             have HV5 := Lib.hid (HV4.out.kept B4)
                             have NB5 := Lib.hid (NB.out.kept B4)
                             have HL5 := Lib.hid (new_then HL4.out B4)
                             have VN := Lib.hid (HV5.out.set 0 (.int .i64 t))
                             have LN := Lib.hid (new_set HL5.out (p := ⟨g, 0, none⟩) LG.out (.int .i64 t))
                             have v0 := HV5.out.cell 0 rfl; have f0 := HV5.out.frozen 0; have y0 := NB5.out.cell 0 rfl)
                go_roundg (len0 - (k + 1))
                case measure => omega
                case rel => exact ⟨k + 1, n, t, by go_num, rfl, rfl, by omega, by omega, ⟨t0, t1⟩, by omega, VN.out, LN.out⟩
          · have tu0 := tu (by simp [hx])
            have s1 : decide (t < s) = false := decide_eq_false (by omega)
            have s1' : ¬ t < s := by omega
            have q1 : decide (C < x) = true := decide_eq_true (by omega)
            have q1' : C < x := by omega
            clear td tu hx HN
            have r0 := NR.out.cell 0 rfl; have r1 := NR.out.cell 1 rfl; have c0 := HV2.out.cell 0 rfl
            go_upto_region 11 with (go_at_call 5; refine (RO.out _).mono ?_; rintro e w3 ⟨rfl, B3⟩)
            obtain ⟨z, hz⟩ : ∃ z, w3.heap.size = z := ⟨_, rfl⟩
            obtain ⟨W3, hW3⟩ : ∃ W3, w3.alloc (.cells #[.int .i64 t] 23) = W3 := ⟨_, rfl⟩
            have NB : Hid (Blk W3 z [.int .i64 t] 23) := Lib.hid (by rw [← hW3]; exact Blk.newAt hz _ _)
            have HV4 : Hid (Blk W3 g [.int .i64 s] 23) := Lib.hid (by rw [← hW3]; exact (HV2.out.kept B3).alloc _)
            have HL4 : Hid (Below w.heap.size w W3) := Lib.hid (by rw [← hW3]; exact new_alloc (new_then HL2.out B3) _)
            rw [hW3, hz]
            clear hW3 hz c0 r0 r1 HV2 HL2 NR B3 RO
            have c0 := HV4.out.cell 0 rfl; have n0 := NB.out.cell 0 rfl
            by_cases ho : 1048576 ≤ t
            · have o1 : decide (((n : Int) + 1) < 4) = false := decide_eq_false (by omega)
              have o1' : ¬ ((n : Int) + 1) < 4 := by omega
              rw [decide_eq_true ho] at OL
              go_wp2_with (go_at_call 7; refine (OL.out _).mono ?_; rintro e w4 ⟨rfl, B4⟩
                           have HV5 := Lib.hid (HV4.out.kept B4)
                           have NB5 := Lib.hid (NB.out.kept B4)
                           have HL5 := Lib.hid (new_then HL4.out B4)
                           have VN := Lib.hid (HV5.out.set 0 (.int .i64 t))
                           have LN := Lib.hid (new_set HL5.out (p := ⟨g, 0, none⟩) LG.out (.int .i64 t))
                           have v0 := HV5.out.cell 0 rfl; have f0 := HV5.out.frozen 0; have y0 := NB5.out.cell 0 rfl)
              go_roundg (len0 - (k + 1))
              case measure => omega
              case rel => exact ⟨k + 1, (n + 1), t, by go_num, by go_num, rfl, by omega, by omega, ⟨t0, t1⟩, by omega, VN.out, LN.out⟩
            · rw [decide_eq_false ho] at OL
              go_wp2_with (go_at_call 7; refine (OL.out _).mono ?_; rintro e w4 ⟨rfl, B4⟩
                           have HV5 := Lib.hid (HV4.out.kept B4)
                           have NB5 := Lib.hid (NB.out.kept B4)
                           have HL5 := Lib.hid (new_then HL4.out B4)
                           have VN := Lib.hid (HV5.out.set 0 (.int .i64 t))
                           have LN := Lib.hid (new_set HL5.out (p := ⟨g, 0, none⟩) LG.out (.int .i64 t))
                           have v0 := HV5.out.cell 0 rfl; have f0 := HV5.out.frozen 0; have y0 := NB5.out.cell 0 rfl)
              go_roundg (len0 - (k + 1))
              case measure => omega
              case rel => exact ⟨k + 1, (n + 1), t, by go_num, by go_num, rfl, by omega, by omega, ⟨t0, t1⟩, by omega, VN.out, LN.out⟩
        · have i2 : ¬ (k : Int) < 60 := by omega
          have i3 : (60 : Int) ≤ (k : Int) := by omega
          go_wp2_with fail
          go_meet
          exact HL2.out
      · have i1 : ¬ (k : Int) < (len0 : Int) := by omega
        go_wp2_with fail
        go_meet
        exact HL.out
  case rest =>
    have HL := Lib.hid hcut
    clear hcut V L HX
    go_wp2_with (go_at_call 8; refine (works27_any _).mono ?_; rintro e w8 ⟨rfl, B8⟩)
    go_ret
    exact ⟨rfl, new_then HL.out B8⟩

set_option maxRecDepth 100000 in
theorem lifted (os : Os) (started : os.Started) (H : Type) (enc : TypeId × Value → H) :
    ReturnsInHanded {} Try.checked os 4 .any (Rows.classicWaitsSpec.pre6 enc Try.prog Try.f4 Rows.classicWaitsRow.domain false) (Rows.classicWaitsSpec.post enc Try.prog Try.f4 false true false false) := by
  refine returnsInHanded_of_change (C := Try.checked) own started (by kernel_rfl) Try.func4
    (ChangeSpec.witness6 (enc := enc) (C := Try.checked) false ⟨#[], #[.slice none 0 0, .int .i64 0], []⟩ 8 (by kernel_rfl) (by kernel_rfl) (by kernel_rfl) (by kernel_rfl)) ?_
  intro W base args ds gs before hval0 hW hcnd _
  have hval : ∀ (j : Nat) t v, Try.f4.params[j]? = some t → args[j]? = some v → Value.okWide Try.prog W .any base t v := hval0
  have hW' := hW
  obtain ⟨p, q, hA0, hV, rfl, hfz, hnd⟩ := hW
  have hA : DataW.TrodAll enc Try.prog W 0 (fun _ => true) true Try.f4.params.toList args.toList ds p := hA0
  rw [Try.params4] at hA hval
  obtain ⟨v0, vs0, d0, ds0, p0, q0, hargs, rfl, rfl, h0, r0⟩ := trodAll_cons hA
  obtain ⟨v1, vs1, d1, ds1, p1, q1, rfl, rfl, rfl, h1, r1⟩ := trodAll_cons r0
  obtain ⟨rfl, rfl, rfl⟩ := trodAll_nil r1
  obtain rfl : args = #[v0, v1] := by cases args; simp_all
  obtain ⟨rfl, rfl⟩ := trodVars_none hV
  have k0 := h0
  have lt0 : ∀ x ∈ p0, x.block < W.heap.size := by obtain ⟨m, hm⟩ := k0; exact DataW.trod_lt m _ _ _ hm
  obtain ⟨a0, len0, cap0, rfl⟩ := okWide_slice Try.underlying29 (hval 0 29 v0 rfl rfl)
  have w0 := isRows_of (n := 2) (ls := [(0, .inr false), (1, .inl .i64)]) Try.underlying29 (by kernel_rfl) (by kernel_rfl) (by decide) h0
  have k1 := h1
  have lt1 : ∀ x ∈ p1, x.block < W.heap.size := by obtain ⟨m, hm⟩ := k1; exact DataW.trod_lt m _ _ _ hm
  obtain ⟨a1, rfl, _, _, w1⟩ := open_int Try.underlying2 (hval 1 2 v1 rfl rfl) h1
  clear hA0 hval0
  refine (walk a0 len0 cap0 a1 W w0 w1).mono fun e W' ⟨he, bel⟩ => ?_
  subst he
  exact ⟨_, rfl, _, _, _, [], _, [], hW', trodAll_mk1 (shut_bool Try.underlying4 _), (trodAll_cons_mk (Below.trod laidOut (by kernel_rfl) (of_decide_eq_true (by kernel_rfl)) k0 bel lt0) (trodAll_cons_mk (Below.trod laidOut (by kernel_rfl) (of_decide_eq_true (by kernel_rfl)) k1 bel lt1) trodAll_mk0)), rfl, bel.frame _, fun h => by cases h⟩

theorem over : Rows.classicWaitsRow.holds Try.pinned (OpenSpec.ofChange Rows.classicWaitsSpec) :=
  OpenClaim.holds_of_wide 4 Try.f4 rfl rfl rfl rfl rfl rfl rfl ⟨rfl, rfl, rfl, rfl, rfl⟩ rfl rfl rfl rfl rfl (by kernel_rfl) Try.func4 (by kernel_rfl)
    (of_decide_eq_true (by kernel_rfl)) (by unfold Func.isWrapper; first | (rw [if_pos (by decide +kernel)]; kernel_rfl) | (rw [if_neg (by decide +kernel)]; exact ⟨rfl, rfl⟩))
    (fun os started H enc _ => lifted os started H enc)
end classicWaits
theorem classicWaits_holds : Rows.ClassicWaitsSaid := classicWaits.over
end Go.Proofs.Ytmmccaaocfbdlaa
