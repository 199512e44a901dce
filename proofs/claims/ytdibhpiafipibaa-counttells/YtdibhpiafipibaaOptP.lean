/- Package option: Acc. The document's low, Acc. -/
import Derived.Test.YtdibhpiafipibaaOptO
namespace Go.Proofs.Ytdibhpiafipibaa
open Go.RowKit
set_option linter.unusedVariables false

/-- A number modulo 2^24. -/
def loO (x : Int) : Int := x % 16777216
theorem lo_bd12 (x : Int) : 0 ≤ loO x ∧ loO x ≤ 16777215 := by unfold loO; omega
theorem and24 (n : Int) : bits .and .i64 n 16777215 = loO n := by
  have h127 : (BitVec.ofInt 64 16777215).toNat = 2 ^ 24 - 1 := by decide
  have key : (BitVec.ofInt 64 n &&& BitVec.ofInt 64 16777215).toNat = (n % ((2 ^ 64 : Nat) : Int)).toNat % 2 ^ 24 := by
    rw [BitVec.toNat_and, BitVec.toNat_ofInt, h127, Nat.and_two_pow_sub_one_eq_mod]
  show IntKind.i64.wrap ((BitVec.ofInt 64 n &&& BitVec.ofInt 64 16777215).toNat : Nat) = n % 16777216
  rw [key, IntKind.wrap_i64]
  omega
/-- Which counter stands where; an option that tells some of them. -/
def srcA (a b c : Int) (p : Nat) : Int := if p = 0 then a else if p = 1 then b else c
def kdA (k : Int) : Int := if k = 174 then 174 else 172
def acN (k a b c : Int) (i : Nat) : Int := loO (srcA a b c (plO k i))
def acL (k a b c : Int) (M : Nat) : List Int := (List.range M).map (acN k a b c)
def accO (k a b c : Int) (M : Nat) : Opt := ⟨kdA k, acL (kdA k) a b c M, ByteArray.empty⟩
theorem acL_len (k a b c : Int) (M : Nat) : (acL k a b c M).length = M := by simp [acL]
theorem acL_more (k a b c : Int) (i : Nat) : acL k a b c (i + 1) = acL k a b c i ++ [acN k a b c i] := by simp [acL, List.range_succ]
theorem acL_u (k a b c : Int) (M : Nat) : ∀ z ∈ acL k a b c M, 0 ≤ z ∧ z ≤ 4294967295 := by
  intro z hz
  simp only [acL, List.mem_map] at hz
  obtain ⟨i, _, rfl⟩ := hz
  have := lo_bd12 (srcA a b c (plO k i))
  unfold acN; omega
theorem src_at12 (a b c : Int) (p : Nat) (h : p < 3) : [Value.int .i64 a, .int .i64 b, .int .i64 c][p]? = some (.int .i64 (srcA a b c p)) := by
  rcases (show p = 0 ∨ p = 1 ∨ p = 2 by omega) with rfl | rfl | rfl <;> rfl

/-- An option in memory whose numbers grow: they lie in a row of its own. -/
def Grow (w : World) (base p : Nat) (k : Int) (s : ByteArray) (zs : List Int) (v : Value) : Prop := Blk w p [.int .i64 k, v, .string s] 32 ∧ OwnN w base v zs
/-- What one more number may write. -/
def GroF (w : World) (base p j : Nat) : Prop := j = p ∨ (base ≤ j ∧ TyAt w j 46)
theorem grow_fin {w w1 w3 : World} {base p g n1 c1 : Nat} {v : Value} {k z : Int} {s : ByteArray} {zs : List Int} (H : Grow w base p k s zs v) (B : Below w.heap.size w w1)
    (O : OwnN w3 base (.slice (some ⟨g, 0, none⟩) n1 c1) (zs ++ [z])) (G : w1.grownBy w3 v.ownBlock) :
    Grow (w3.setCell ⟨p, 1, none⟩ (.slice (some ⟨g, 0, none⟩) n1 c1)) base p k s (zs ++ [z]) (.slice (some ⟨g, 0, none⟩) n1 c1) ∧ Out (GroF w base p) w (w3.setCell ⟨p, 1, none⟩ (.slice (some ⟨g, 0, none⟩) n1 c1)) := by
  obtain ⟨h1, h2⟩ := H
  have hp : v.ownBlock ≠ some p := fun e => absurd (ty_one (own_ty h2 e) ⟨_, h1⟩) (by decide)
  have B1 := h1.kept B
  have o1 := out_pushE G
  have B3 := B1.out o1 (fun e => hp e)
  have hg : g ≠ p := fun e => by
    have t1 := own_ty O (g := g) rfl
    rw [e] at t1
    exact absurd (ty_one t1 ⟨_, B3⟩) (by decide)
  have oS : Out (fun j => j = p) w3 (w3.setCell ⟨p, 1, none⟩ (.slice (some ⟨g, 0, none⟩) n1 c1)) := Out.set (p := ⟨p, 1, none⟩) (Out.refl (fun j => j = p) w3) (.inl rfl) _
  refine ⟨⟨B3.set 1 _, O.out oS (fun j e => by simp [Value.ownBlock] at e; subst e; exact hg)⟩, ?_⟩
  have F1 : Out (GroF w base p) w w3 := (Out.of B _).trans o1 (fun i hi e => .inr ⟨(World.ownsRow.lt h2 i e).1, own_ty h2 e⟩)
  exact Out.set (p := ⟨p, 1, none⟩) F1 (.inl (.inl rfl)) _
theorem gro_far {w : World} {base p j : Nat} {t : TypeId} (h : TyAt w j t) (ht : t ≠ 46) (hj : j ≠ p) : ¬ GroF w base p j := by
  rintro (e | ⟨_, e⟩)
  · exact hj e
  · exact ht (ty_one h e)
theorem gro_below {w w' : World} {B base p : Nat} (o : Out (GroF w base p) w w') (hb : B ≤ w.heap.size) (hp : B ≤ p) (hB : B ≤ base) : Below B w w' := o.below hb (fun k h => by rcases h with rfl | h; exact hp; exact Nat.le_trans hB h.1)
theorem Grow.has {w : World} {base p n c : Nat} {k : Int} {s : ByteArray} {zs : List Int} {A : Option Addr} (h : Grow w base p k s zs (.slice A n c)) (hu : ∀ z ∈ zs, 0 ≤ z ∧ z ≤ 4294967295) (hf : zs.length ≤ 100) (hs : s.size ≤ 100) : HasO w ⟨⟨k, zs, s⟩, A, n, c⟩ ∧ zs.length = n := by
  have hn : zs.length = n := by
    rcases h.2.form with ⟨e, hz⟩ | ⟨g, c', e⟩
    · simp at e; simp [hz, e]
    · simp at e; exact e.2.1.symm
  exact ⟨hasO_own (o := ⟨k, zs, s⟩) h.2 hu (by omega) hs, hn⟩
theorem Grow.form {w : World} {base p : Nat} {k : Int} {s : ByteArray} {zs : List Int} {v : Value} (h : Grow w base p k s zs v) : ∃ A n c, v = .slice A n c ∧ zs.length = n := by
  rcases h.2.form with ⟨rfl, hz⟩ | ⟨g, c', rfl⟩
  · exact ⟨_, _, _, rfl, by simp [hz]⟩
  · exact ⟨_, _, _, rfl, rfl⟩
/-- An option that a call made: its numbers lie in a list of its own. -/
def MadeO (w : World) (o : Opt) (e : Ending) (w' : World) : Prop := ∃ A n c, e = .returned (.agg #[.int .i64 o.k, .slice A n c, .string o.s]) ∧ HasO w' ⟨o, A, n, c⟩ ∧ Below w.heap.size w w'

/-- What is kept while Acc counts. -/
structure AccAt (w wr : World) (k a b c : Int) (i : Nat) (v : Value) : Prop where
  res : Blk wr w.heap.size [.int .i64 0, .slice none 0 0, .string ByteArray.empty] 32
  src : Blk wr (w.heap.size + 1) [.int .i64 a, .int .i64 b, .int .i64 c] 36
  gro : Grow wr w.heap.size (w.heap.size + 1 + 1) k ByteArray.empty (acL k a b c i) v
  low : Below w.heap.size w wr
theorem acc_more {w wr w1 w3 : World} {k a b c z : Int} {i g n1 c1 : Nat} {v : Value} (H : AccAt w wr k a b c i v) (B : Below wr.heap.size wr w1) (hz : acN k a b c i = z)
    (O : OwnN w3 w.heap.size (.slice (some ⟨g, 0, none⟩) n1 c1) (acL k a b c i ++ [z])) (G : w1.grownBy w3 v.ownBlock) :
    AccAt w (w3.setCell ⟨w.heap.size + 1 + 1, 1, none⟩ (.slice (some ⟨g, 0, none⟩) n1 c1)) k a b c (i + 1) (.slice (some ⟨g, 0, none⟩) n1 c1) := by
  obtain ⟨h1, h2⟩ := grow_fin H.gro B O G
  refine ⟨H.res.out h2 (gro_far ⟨_, H.res⟩ (by decide) (by omega)), H.src.out h2 (gro_far ⟨_, H.src⟩ (by decide) (by omega)), ?_, H.low.trans (gro_below h2 H.low.size (by omega) (Nat.le_refl _))⟩
  rw [acL_more, hz]
  exact h1
theorem acc_end {w wr : World} {k a b c : Int} {M n cp : Nat} {A : Option Addr} (H : AccAt w wr k a b c M (.slice A n cp)) (hM : M ≤ 3) : HasO wr ⟨⟨k, acL k a b c M, ByteArray.empty⟩, A, n, cp⟩ :=
  (H.gro.has (acL_u _ _ _ _ _) (by rw [acL_len]; omega) (by decide)).1
def AccI (w : World) (k a b c : Int) (M gh : Nat) (vi : Value) (wr : World) : Prop := ∃ (i : Nat) (v : Value), vi = .int .i64 (i : Int) ∧ M - i = gh ∧ i ≤ M ∧ AccAt w wr k a b c i v
theorem acc_start (k a b c : Int) (w : World) : AccAt w (((w.alloc (.cells #[.int .i64 0, .slice none 0 0, .string ByteArray.empty] 32)).alloc (.cells #[.int .i64 a, .int .i64 b, .int .i64 c] 36)).alloc (.cells #[.int .i64 k, .slice none 0 0, .string ByteArray.empty] 32)) k a b c 0 (.slice none 0 0) :=
  ⟨((Blk.new w [.int .i64 0, .slice none 0 0, .string ByteArray.empty] _).alloc _).alloc _, (Blk.newAt (alloc_size w _) [.int .i64 a, .int .i64 b, .int .i64 c] _).alloc _, ⟨Blk.newAt (by rw [alloc_size, alloc_size]) [.int .i64 k, .slice none 0 0, .string ByteArray.empty] _, OwnK.nil _ _ _ _⟩, new_alloc (new_alloc (new_alloc (new_refl w) _) _) _⟩
/-- How many counters are told. -/
def mnA (m : Int) : Nat := if m ≤ 0 then 0 else if 3 ≤ m then 3 else m.toNat
set_option maxRecDepth 100000 in
set_option maxHeartbeats 1000000 in
theorem acc_any (k a b c m : Int) (w : World) : Calls Try.prog 22 #[.int .i64 k, .int .i64 a, .int .i64 b, .int .i64 c, .int .i64 m] w (MadeO w (accO k a b c (mnA m))) := by
  obtain ⟨M, hM⟩ : ∃ M, mnA m = M := ⟨_, rfl⟩
  have m3 : M ≤ 3 := by rw [← hM]; unfold mnA; split <;> (try split) <;> omega
  have ew : (if (3 : Int) < (if m < 0 then 0 else m) then (3 : Int) else (if m < 0 then 0 else m)) = (M : Int) := by
    rw [← hM]; unfold mnA; split <;> (try split) <;> (try split) <;> (try split) <;> omega
  rw [hM, accO]
  obtain ⟨K, hK⟩ : ∃ K, kdA k = K := ⟨_, rfl⟩
  rw [hK]
  have S := Lib.hid (acc_start K a b c w)
  have HK := Lib.hid hK
  clear hM hK
  have HMM := Lib.hid ew
  clear ew
  have mc : M = 0 ∧ m < 0 ∨ M = 0 ∧ m = 0 ∨ (0 < m ∧ m < 3 ∧ m = (M : Int)) ∨ (m = 3 ∧ M = 3) ∨ (3 < m ∧ M = 3) := by
    have := HMM.out; split at this <;> split at this <;> omega
  have HMC := Lib.hid mc
  clear mc
  go_enter Try.func22, Try.ntmps22
  by_cases hk : k = 174
  case' pos =>
    subst hk
    obtain rfl : K = 174 := by rw [← HK.out]; simp [kdA]
    go_upto_region 5 with (fail)
    clear HK
    generalize (174 : Int) = K at *
  case' neg =>
    have q1 : (k != 174) = true := by simp [hk]
    obtain rfl : K = 172 := by rw [← HK.out]; simp [kdA, hk]
    go_upto_region 5 with (fail)
    clear HK hk q1
    generalize (172 : Int) = K at *
  all_goals
    go_cut [25, 26] (fun v u wx => v = .int .i64 (M : Int) ∧ u = .int .i64 0 ∧ AccAt w wx K a b c 0 (.slice none 0 0))
    case first =>
      rcases HMC.out with ⟨rfl, h⟩ | ⟨rfl, rfl⟩ | ⟨h, h', rfl⟩ | ⟨rfl, rfl⟩ | ⟨h, rfl⟩
      all_goals
        go_wp2_with fail
        go_meet
        exact ⟨rfl, rfl, S.out⟩
    case rest =>
      obtain ⟨rfl, rfl, C0⟩ := hcut
      have HC0 := Lib.hid C0
      clear S HMC HMM C0
      go_wp2_with fail
      go_loopg [26] M (fun gh vi wr => AccI w K a b c M gh vi wr)
      case atStart => exact ⟨0, _, rfl, rfl, by omega, HC0.out⟩
      case round =>
        clear HC0
        obtain ⟨i, v, rfl, rfl, hi, C⟩ := hrel
        have HC := Lib.hid C
        by_cases hlt : i < M
        · have k0 : (0 : Int) ≤ (i : Int) := by omega
          have k1 : (i : Int) < (M : Int) := by omega
          obtain ⟨P, hP⟩ : ∃ P, plO K i = P := ⟨_, rfl⟩
          have CP : Hid (∀ w, Calls Try.prog 25 #[.int .i64 K, .int .i64 (i : Int)] w fun e w' => e = .returned (.int .i64 (P : Int)) ∧ w = w') := Lib.hid (fun w => by rw [← hP]; exact place12_any K i w (by omega))
          have p3 : P < 3 := by rw [← hP]; exact pl_three (by omega)
          have p4 : (P : Int) < 3 := by omega
          have p5 : (0 : Int) ≤ (P : Int) := by omega
          have s0 := C.src.cell P (src_at12 a b c P p3)
          obtain ⟨z, hz⟩ : ∃ z, loO (srcA a b c P) = z := ⟨_, rfl⟩
          have zb := lo_bd12 (srcA a b c P)
          rw [hz] at zb
          have HZ : Hid (acN K a b c i = z) := Lib.hid (by rw [acN, hP, hz])
          have ea : bits .and .i64 (srcA a b c P) 16777215 = z := by rw [and24, hz]
          obtain ⟨z0, z1⟩ := zb
          have ez : IntKind.u32.wrap z = z := by rw [IntKind.wrap_u32]; omega
          have b1 := C.gro.1.cell 1 rfl
          have HB := Lib.hid C.gro.1
          have HO := Lib.hid C.gro.2
          have HLN : Hid ((acL K a b c i).length + 1 = i + 1) := Lib.hid (by rw [acL_len])
          have hbs := C.low.size
          have hi1 : i + 1 ≤ 1000000000 := by omega
          clear C hP hz
          go_wp2_with (first
            | (go_at_call 25; refine (CP.out _).mono ?_; rintro e w3 ⟨rfl, rfl⟩)
            | (at_builtin; refine wp_pushK elN (by rfl) _ _ (by rfl) w.heap.size _ (acL K a b c i) z _ 1 (by rfl) (by rfl) ((At.new wr [.int .u32 z] _).cell 0 rfl) (HO.out.alloc _) (i + 1) HLN.out hi1 (alloc_le hbs _) _ rfl ?_; intro g3 c3 w3 O3 G3 hat3 hlt3
               have F3 := acc_more HC.out (new_alloc (new_refl wr) _) HZ.out O3 G3
               have Q3 := ((HB.out.alloc _).out (out_pushE G3) (fun e => absurd (ty_one (own_ty HO.out e) ⟨_, HB.out⟩) (by decide)))
               have q0 := Q3.cell 1 rfl
               have q1 := Q3.frozen 1))
          go_roundg (M - (i + 1))
          case measure => omega
          case rel => exact ⟨i + 1, _, by go_num, rfl, by omega, F3⟩
        · obtain rfl : i = M := by omega
          obtain ⟨A, n, cp, rfl, hn⟩ := C.gro.form
          have b0 := C.gro.1.cell 0 rfl
          have b1 := C.gro.1.cell 1 rfl
          have b2 := C.gro.1.cell 2 rfl
          have r0 := C.res.cell 0 rfl
          have r1 := C.res.cell 1 rfl
          have r2 := C.res.cell 2 rfl
          have f0 := C.res.frozen 0
          have f1 := C.res.frozen 1
          have f2 := C.res.frozen 2
          have L := C.low
          have E := Lib.hid (acc_end C m3)
          clear C hn
          go_wp2_with fail
          exact bodyPost_ret (v := .agg #[.int .i64 K, .slice A n cp, .string ByteArray.empty]) (by simp [results, Try.results22, go_sem, r0, r1, r2]) rfl ⟨A, n, cp, rfl, E.out.apart3 HC.out.res, new_set3 L (Nat.le_refl _) _ _ _⟩
end Go.Proofs.Ytdibhpiafipibaa
