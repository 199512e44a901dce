/- The document's low, Acc of layer 12. -/
import Derived.Test.YtdibhpiafipibaaOptP
import Derived.Deep.RegionLaw
namespace Go.Proofs.Ytdibhpiafipibaa
open Go.RowKit
set_option linter.unusedVariables false

theorem refLow_any (x : Int) (w : World) (hx : -9223372036854775808 ≤ x ∧ x ≤ 9223372036854775807) : Calls Try.prog 26 #[.int .i64 x] w fun e w' => e = .returned (.int .u32 (loO x)) ∧ w = w' := by
  obtain ⟨t, ht⟩ : ∃ t, x.tmod 16777216 = t := ⟨_, rfl⟩
  have te : t = if 0 ≤ x then x % 16777216 else -((-x) % 16777216) := by
    rw [← ht]
    split
    · exact Int.tmod_eq_emod_of_nonneg ‹_›
    · have e := Int.neg_tmod (-x) 16777216
      rw [Int.neg_neg] at e
      rw [e, Int.tmod_eq_emod_of_nonneg (by omega)]
  have tb : -16777216 < t ∧ t < 16777216 := by split at te <;> omega
  have HX := Lib.hid hx
  have HT : Hid (loO x = if t < 0 then t + 16777216 else t) := Lib.hid (by unfold loO; split at te <;> split <;> omega)
  clear te
  obtain ⟨t0, t1⟩ := tb
  clear hx
  by_cases h : t < 0
  · have e1 : IntKind.u32.wrap (t + 16777216) = t + 16777216 := by rw [IntKind.wrap_u32]; omega
    have HE : Hid (t + 16777216 = loO x) := Lib.hid (by rw [HT.out, if_pos h])
    go_enter Try.func26, Try.ntmps26
    go_wp2_with fail
    go_ret
    exact ⟨ret_int HE.out, rfl⟩
  · have e1 : IntKind.u32.wrap t = t := by rw [IntKind.wrap_u32]; omega
    have HE : Hid (t = loO x) := Lib.hid (by rw [HT.out, if_neg h])
    go_enter Try.func26, Try.ntmps26
    go_wp2_with fail
    go_ret
    exact ⟨ret_int HE.out, rfl⟩
/-- What is kept while the document's Acc counts. -/
structure RAccAt (w wr : World) (base gs p : Nat) (k a b c : Int) (i : Nat) (v : Value) : Prop where
  res : Blk wr w.heap.size [.int .i64 0, .slice none 0 0, .string ByteArray.empty] 32
  src : Blk wr gs [.int .u32 (acN k a b c 0), .int .u32 (acN k a b c 1), .int .u32 (acN k a b c 2)] 46
  gro : Grow wr base p k ByteArray.empty (acL k a b c i) v
  low : Below w.heap.size w wr
  b1 : w.heap.size ≤ base
  b2 : base ≤ wr.heap.size
  p1 : w.heap.size < p
  s1 : gs < base
theorem racc_more {w wr w1 w3 : World} {base gs p : Nat} {k a b c z : Int} {i g n1 c1 : Nat} {v : Value} (H : RAccAt w wr base gs p k a b c i v) (B : Below wr.heap.size wr w1) (hz : acN k a b c i = z)
    (O : OwnN w3 base (.slice (some ⟨g, 0, none⟩) n1 c1) (acL k a b c i ++ [z])) (G : w1.grownBy w3 v.ownBlock) :
    RAccAt w (w3.setCell ⟨p, 1, none⟩ (.slice (some ⟨g, 0, none⟩) n1 c1)) base gs p k a b c (i + 1) (.slice (some ⟨g, 0, none⟩) n1 c1) := by
  obtain ⟨h1, h2⟩ := grow_fin H.gro B O G
  have e1 := H.s1
  have e2 := H.p1
  have hgp : gs ≠ p := fun e => by
    have h := H.src
    rw [e] at h
    exact absurd (ty_one ⟨_, h⟩ ⟨_, H.gro.1⟩) (by decide)
  refine ⟨H.res.out h2 (gro_far ⟨_, H.res⟩ (by decide) (by omega)), H.src.out h2 ?_, ?_, H.low.trans (gro_below h2 H.low.size (by omega) H.b1), H.b1, Nat.le_trans H.b2 h2.size, H.p1, H.s1⟩
  · rintro (e | ⟨e, _⟩)
    · exact hgp e
    · omega
  · rw [acL_more, hz]
    exact h1
theorem ac_at (k a b c : Int) (i : Nat) (h : i < 3) : [Value.int .u32 (acN k a b c 0), .int .u32 (acN k a b c 1), .int .u32 (acN k a b c 2)][i]? = some (.int .u32 (acN k a b c i)) := by
  rcases (show i = 0 ∨ i = 1 ∨ i = 2 by omega) with rfl | rfl | rfl <;> rfl
def RAccI (w : World) (base gs p : Nat) (k a b c : Int) (M gh : Nat) (vi : Value) (wr : World) : Prop := ∃ (i : Nat) (v : Value), vi = .int .i64 (i : Int) ∧ M - i = gh ∧ i ≤ M ∧ RAccAt w wr base gs p k a b c i v
theorem i64_lo (k a b c : Int) (i : Nat) : 0 ≤ acN k a b c i ∧ acN k a b c i ≤ 16777215 := lo_bd12 _
theorem racc_yes (a b c : Int) (w : World) : RAccAt w ((((w.alloc (.cells #[.int .i64 0, .slice none 0 0, .string ⟨#[]⟩] 32)).alloc (.cells #[.int .u32 (loO a), .int .u32 (loO b), .int .u32 (loO c)] 46)).alloc (.cells #[.int .i64 174, .slice none 0 0, .string ⟨#[]⟩] 32)).alloc (.cells #[.int .u32 (loO c), .int .u32 (loO b), .int .u32 (loO a)] 46)) (w.heap.size + 1 + 1 + 1 + 1) (w.heap.size + 1 + 1 + 1) (w.heap.size + 1 + 1) 174 a b c 0 (.slice none 0 0) :=
  ⟨(((Blk.new w [.int .i64 0, .slice none 0 0, .string ByteArray.empty] _).alloc _).alloc _).alloc _, Blk.newAt (by rw [alloc_size, alloc_size, alloc_size]) [.int .u32 (loO c), .int .u32 (loO b), .int .u32 (loO a)] _, ⟨(Blk.newAt (by rw [alloc_size, alloc_size]) [.int .i64 174, .slice none 0 0, .string ByteArray.empty] _).alloc _, OwnK.nil _ _ _ _⟩, new_alloc (new_alloc (new_alloc (new_alloc (new_refl w) _) _) _) _, by omega, by rw [alloc_size, alloc_size, alloc_size, alloc_size]; omega, by omega, by omega⟩
theorem racc_no (a b c : Int) (w : World) : RAccAt w (((w.alloc (.cells #[.int .i64 0, .slice none 0 0, .string ⟨#[]⟩] 32)).alloc (.cells #[.int .u32 (loO a), .int .u32 (loO b), .int .u32 (loO c)] 46)).alloc (.cells #[.int .i64 172, .slice none 0 0, .string ⟨#[]⟩] 32)) (w.heap.size + 1 + 1 + 1) (w.heap.size + 1) (w.heap.size + 1 + 1) 172 a b c 0 (.slice none 0 0) :=
  ⟨((Blk.new w [.int .i64 0, .slice none 0 0, .string ByteArray.empty] _).alloc _).alloc _, (Blk.newAt (by rw [alloc_size]) [.int .u32 (loO a), .int .u32 (loO b), .int .u32 (loO c)] _).alloc _, ⟨Blk.newAt (by rw [alloc_size, alloc_size]) [.int .i64 172, .slice none 0 0, .string ByteArray.empty] _, OwnK.nil _ _ _ _⟩, new_alloc (new_alloc (new_alloc (new_refl w) _) _) _, by omega, by rw [alloc_size, alloc_size, alloc_size]; omega, by omega, by omega⟩
set_option maxRecDepth 100000 in
set_option maxHeartbeats 2000000 in
theorem refAcc_any (k a b c m : Int) (w : World) (ha : -9223372036854775808 ≤ a ∧ a ≤ 9223372036854775807) (hb : -9223372036854775808 ≤ b ∧ b ≤ 9223372036854775807) (hc : -9223372036854775808 ≤ c ∧ c ≤ 9223372036854775807) :
    Calls Try.prog 24 #[.int .i64 k, .int .i64 a, .int .i64 b, .int .i64 c, .int .i64 m] w (MadeO w (accO k a b c (mnA m))) := by
  have HA := Lib.hid ha
  have HB := Lib.hid hb
  have HC := Lib.hid hc
  clear ha hb hc
  obtain ⟨M, hM⟩ : ∃ M, mnA m = M := ⟨_, rfl⟩
  have m3 : M ≤ 3 := by rw [← hM]; unfold mnA; split <;> (try split) <;> omega
  have mc : (M : Int) = m ∨ (m ≤ 0 ∧ M = 0) ∨ (3 ≤ m ∧ M = 3) := by rw [← hM]; unfold mnA; split <;> (try split) <;> omega
  have HMC := Lib.hid mc
  rw [hM, accO]
  obtain ⟨K, hK⟩ : ∃ K, kdA k = K := ⟨_, rfl⟩
  rw [hK]
  have HK := Lib.hid hK
  clear hM hK mc
  go_enter Try.func24, Try.ntmps24
  by_cases hk : k = 174
  case' pos =>
    subst hk
    obtain rfl : K = 174 := by rw [← HK.out]; simp [kdA]
    go_upto_region 6 with (first
      | (go_at_call_of 26 (Value.int IntKind.i64 c); refine (refLow_any c _ HC.out).mono ?_; rintro e w1 ⟨rfl, rfl⟩)
      | (go_at_call_of 26 (Value.int IntKind.i64 b); refine (refLow_any b _ HB.out).mono ?_; rintro e w1 ⟨rfl, rfl⟩)
      | (go_at_call_of 26 (Value.int IntKind.i64 a); refine (refLow_any a _ HA.out).mono ?_; rintro e w1 ⟨rfl, rfl⟩))
    have C0 := Lib.hid (racc_yes a b c w)
    generalize (((w.alloc (.cells #[.int .i64 0, .slice none 0 0, .string ⟨#[]⟩] 32)).alloc (.cells #[.int .u32 (loO a), .int .u32 (loO b), .int .u32 (loO c)] 46)).alloc (.cells #[.int .i64 174, .slice none 0 0, .string ⟨#[]⟩] 32)).alloc (.cells #[.int .u32 (loO c), .int .u32 (loO b), .int .u32 (loO a)] 46) = W at *
    generalize (174 : Int) = K at *
    clear HK
    generalize w.heap.size + 1 + 1 + 1 + 1 = base at *
    generalize w.heap.size + 1 + 1 + 1 = gs at *
    generalize w.heap.size + 1 + 1 = p at *
  case' neg =>
    have q1 : (k == 174) = false := by simp [hk]
    obtain rfl : K = 172 := by rw [← HK.out]; simp [kdA, hk]
    go_upto_region 6 with (first
      | (go_at_call_of 26 (Value.int IntKind.i64 c); refine (refLow_any c _ HC.out).mono ?_; rintro e w1 ⟨rfl, rfl⟩)
      | (go_at_call_of 26 (Value.int IntKind.i64 b); refine (refLow_any b _ HB.out).mono ?_; rintro e w1 ⟨rfl, rfl⟩)
      | (go_at_call_of 26 (Value.int IntKind.i64 a); refine (refLow_any a _ HA.out).mono ?_; rintro e w1 ⟨rfl, rfl⟩))
    have C0 := Lib.hid (racc_no a b c w)
    generalize ((w.alloc (.cells #[.int .i64 0, .slice none 0 0, .string ⟨#[]⟩] 32)).alloc (.cells #[.int .u32 (loO a), .int .u32 (loO b), .int .u32 (loO c)] 46)).alloc (.cells #[.int .i64 172, .slice none 0 0, .string ⟨#[]⟩] 32) = W at *
    generalize (172 : Int) = K at *
    clear HK hk q1
    generalize w.heap.size + 1 + 1 + 1 = base at *
    generalize w.heap.size + 1 + 1 = p at *
    generalize w.heap.size + 1 = gs at *
  all_goals
    clear HA HB HC
    go_wp2_with fail
    go_loopg [13] M (fun gh vi wr => RAccI w base gs p K a b c M gh vi wr)
    case atStart => exact ⟨0, _, rfl, rfl, by omega, C0.out⟩
    case round =>
      clear C0
      obtain ⟨i, v, rfl, rfl, hi, C⟩ := hrel
      have HCC := Lib.hid C
      by_cases hlt : i < M
      · have k0 : (0 : Int) ≤ (i : Int) := by omega
        have k1 : (i : Int) < m := by have := HMC.out; omega
        have k2 : (i : Int) < 3 := by omega
        have s0 := C.src.cell i (ac_at K a b c i (by omega))
        have zb := i64_lo K a b c i
        obtain ⟨z, hz⟩ : ∃ z, acN K a b c i = z := ⟨_, rfl⟩
        rw [hz] at s0 zb
        have HZ := Lib.hid hz
        obtain ⟨z0, z1⟩ := zb
        have b1 := C.gro.1.cell 1 rfl
        have bf := C.gro.1.frozen 1
        have HB := Lib.hid C.gro.1
        have HO := Lib.hid C.gro.2
        have HLN : Hid ((acL K a b c i).length + 1 = i + 1) := Lib.hid (by rw [acL_len])
        have hbs := C.b2
        have hi1 : i + 1 ≤ 1000000000 := by omega
        have vb1 : ∀ o, (wr.alloc o).cell? ⟨p, 1, none⟩ = some v := fun o => (C.gro.1.alloc o).cell 1 rfl
        have hpn : ¬ p = wr.heap.size := by have := C.gro.1.lt; omega
        have hsn : ¬ gs = wr.heap.size := by have := C.src.lt; omega
        clear C hz
        go_wp2_with fail
        go_region_law
          (first
            | (refine step_pushK elN (o := ⟨some 48, _, _, _, _, _⟩) rfl _ _ rfl base v (acL K a b c i) z _ 1 rfl rfl ?_ ?_ (i + 1) HLN.out hi1 ?_ _ rfl ?_
               · exact (At.new wr.drew [.int .u32 z] _).cell 0 rfl
               · exact OwnK.alloc (w := wr.drew) HO.out _
               · exact alloc_le (W := wr.drew) hbs _
               intro g3 c3 w3 O3 G3 hat3 hlt3
               have F3 := racc_more HCC.out (new_alloc (new_drew (new_refl wr)) _) HZ.out O3 G3
               have Q3 := ((Blk.alloc (w := wr.drew) HB.out _).out (out_pushE G3) (fun e => absurd (ty_one (own_ty HO.out e) ⟨_, HB.out⟩) (by decide)))
               have q0 := Q3.cell 1 rfl
               have q1 := Q3.frozen 1))
        all_goals
          clear b1 bf s0 vb1 Q3 q0 q1
          go_wp2_with fail
          go_roundg (M - (i + 1))
          case measure => omega
          case rel => exact ⟨i + 1, _, by go_num, rfl, by omega, F3⟩
      · obtain rfl : i = M := by omega
        obtain ⟨A, n, cp, rfl, hn⟩ := C.gro.form
        have b0 := C.gro.1.cell 0 rfl
        have b1 := C.gro.1.cell 1 rfl
        have b2 := C.gro.1.cell 2 rfl
        have r0 := C.res.cell 0 rfl
        have r1 := C.res.cell 1 rfl
        have r2 := C.res.cell 2 rfl
        have f0 := C.res.frozen 0
        have f1 := C.res.frozen 1
        have f2 := C.res.frozen 2
        have L := C.low
        have E := Lib.hid (C.gro.has (acL_u _ _ _ _ _) (by rw [acL_len]; omega) (by decide)).1
        clear C hn
        by_cases hm : (i : Int) < m
        · have k2 : ¬ (i : Int) < 3 := by have := HMC.out; omega
          go_wp2_with fail
          exact bodyPost_ret (v := .agg #[.int .i64 K, .slice A n cp, .string ByteArray.empty]) (by simp [results, Try.results24, go_sem, r0, r1, r2]) rfl ⟨A, n, cp, rfl, E.out.apart3 HCC.out.res, new_set3 L (Nat.le_refl _) _ _ _⟩
        · go_wp2_with fail
          exact bodyPost_ret (v := .agg #[.int .i64 K, .slice A n cp, .string ByteArray.empty]) (by simp [results, Try.results24, go_sem, r0, r1, r2]) rfl ⟨A, n, cp, rfl, E.out.apart3 HCC.out.res, new_set3 L (Nat.le_refl _) _ _ _⟩
end Go.Proofs.Ytdibhpiafipibaa
