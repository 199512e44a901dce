/- Package option: read. -/
import Derived.Test.YtnkcnfkonifmhaaZOptX
import Derived.Deep.RegionLaw
namespace Go.Proofs.Ytnkcnfkonifmhaa
open Go.RowKit
set_option linter.unusedVariables false

/-- An option's numbers lie in a block of numbers. -/
def FarO (w : World) (x : OC) : Prop := x.o.zs = [] ∨ ∃ g off, x.a = some ⟨g, off, none⟩ ∧ TyAt w g 25
theorem TyAt.out {F : Nat → Prop} {w w' : World} {g : Nat} {t : TypeId} (h : TyAt w g t) (o : Out F w w') (hF : ¬ F g) : TyAt w' g t := h.imp fun cur b => b.out o hF
theorem TyAt.kept {w w' : World} {g : Nat} {t : TypeId} (h : TyAt w g t) (o : Below w.heap.size w w') : TyAt w' g t := h.imp fun cur b => b.kept o
theorem FarO.kept {w w' : World} {x : OC} (h : FarO w x) (o : Below w.heap.size w w') : FarO w' x := h.imp id fun ⟨g, off, e, t⟩ => ⟨g, off, e, t.kept o⟩
/-- What leaves blocks of numbers alone leaves the option. -/
theorem HasO.out {F : Nat → Prop} {w w' : World} {x : OC} (h : HasO w x) (f : FarO w x) (o : Out F w w') (hF : ∀ g, TyAt w g 25 → ¬ F g) : HasO w' x ∧ FarO w' x := by
  have hls := h.ls
  rcases f with f | ⟨g, off, e, t⟩
  · exact ⟨⟨h.len, ⟨0, .inl f⟩, h.u32, h.few, h.txt, h.room⟩, .inl f⟩
  · refine ⟨⟨h.len, ?_, h.u32, h.few, h.txt, h.room⟩, .inr ⟨g, off, e, t.out o (hF g t)⟩⟩
    obtain ⟨g', l⟩ := hls
    refine ⟨g', ?_⟩
    rcases l with l | ⟨off', e', l⟩
    · exact .inl l
    · rw [e] at e'
      cases e'
      refine .inr ⟨off, e, fun i hi => ?_⟩
      obtain ⟨cur, hb⟩ := t
      have h1 := l i hi
      rw [cell_of_row w _ _ _ _ _ hb] at h1
      rw [cell_of_row w' _ _ _ _ _ (hb.out o (hF g ⟨cur, hb⟩))]
      exact h1
theorem far_own {w : World} {base : Nat} {o : Opt} {A : Option Addr} {n c : Nat} (h : OwnN w base (.slice A n c) o.zs) : FarO w ⟨o, A, n, c⟩ := by
  rcases h.form with ⟨e, hz⟩ | ⟨g, c', e⟩
  · exact .inl hz
  · simp at e
    obtain ⟨rfl, rfl, rfl⟩ := e
    exact .inr ⟨g, 0, rfl, own_ty h rfl⟩
theorem FarO.apart {w : World} {p j : Nat} {x : OC} (h : FarO w x) (v : Value) : FarO (w.setCell ⟨p, j, none⟩ v) x := by
  refine h.imp id fun ⟨g, off, e, cur, hb⟩ => ⟨g, off, e, ?_⟩
  by_cases hg : g = p
  · subst hg; exact ⟨_, hb.set j v⟩
  · exact ⟨_, hb.far (p := ⟨p, j, none⟩) hg v⟩

theorem text12_ls {w : World} {g off n c : Nat} {zs : List Int} (h : LsK .u8 w g (some ⟨g, off, none⟩) zs) (hn : zs.length = n) : (convert 32 9 (.slice (some ⟨g, off, none⟩) n c)).run Try.prog w = .ok (.string (strOfNums zs)) w := by
  refine run_convert_bytes_arg w _ _ elB.und (by kernel_rfl) g off n c zs hn (fun i hi => ?_) _ (by kernel_rfl)
  rw [List.getD_eq_getElem?_getD]
  exact h.at hn hi
theorem str_size (zs : List Int) : (strOfNums zs).size = zs.length := by simp [strOfNums, ByteArray.size]
theorem sz_two {k : Int} (h : szO k ≠ 0) : 2 ≤ szO k := by
  rcases kind_five k with rfl | rfl | rfl | rfl | h'
  · decide
  · decide
  · decide
  · decide
  · exact absurd (sz_no h') h
/-- What read leaves. -/
def ReadTo (w : World) (ys : List Int) (e : Ending) (w' : World) : Prop :=
  ∃ A n c, e = .returned (.tuple #[.agg #[.int .i64 (optO ys).k, .slice A n c, .string (optO ys).s], .bool true]) ∧ HasO w' ⟨optO ys, A, n, c⟩ ∧ FarO w' ⟨optO ys, A, n, c⟩ ∧ Below w.heap.size w w'
def ReadAny (w : World) (ys : List Int) (bad : Bool) (e : Ending) (w' : World) : Prop :=
  if bad = true then e = .returned (.tuple #[.agg #[.int .i64 0, .slice none 0 0, .string ByteArray.empty], .bool false]) ∧ Below w.heap.size w w' else ReadTo w ys e w'
theorem read_no {w w' : World} {ys : List Int} {bad : Bool} {e : Ending} (hb : bad = true) (h : e = .returned (.tuple #[.agg #[.int .i64 0, .slice none 0 0, .string ByteArray.empty], .bool false]) ∧ Below w.heap.size w w') : ReadAny w ys bad e w' := by rw [ReadAny, if_pos hb]; exact h
theorem read_yes {w w' : World} {ys : List Int} {bad : Bool} {e : Ending} {o : Opt} {A : Option Addr} {n c : Nat} (hb : bad = false) (ho : optO ys = o) (he : e = .returned (.tuple #[.agg #[.int .i64 o.k, .slice A n c, .string o.s], .bool true])) (h : HasO w' ⟨o, A, n, c⟩) (f : FarO w' ⟨o, A, n, c⟩) (B : Below w.heap.size w w') : ReadAny w ys bad e w' := by
  subst ho
  rw [ReadAny, if_neg (by simp [hb])]
  exact ⟨A, n, c, he, h, f, B⟩
theorem has_raw (w : World) (k : Int) (s : ByteArray) (h : s.size ≤ 100) : HasO w ⟨⟨k, [], s⟩, none, 0, 0⟩ := ⟨rfl, ⟨0, .inl rfl⟩, fun z hz => (by cases hz), by show 0 ≤ 100; omega, h, Nat.le_refl _⟩
/-- What is kept while numbers are read. -/
structure RdgAt (w wr : World) (sh p Wd le mo : Nat) (K : Int) (xs : List Int) (i : Nat) (v : Value) : Prop where
  res : Blk wr w.heap.size [.int .i64 0, .slice none 0 0, .string ByteArray.empty] 76
  shp : Blk wr sh [.int .i64 (Wd : Int), .int .i64 (le : Int), .int .i64 (mo : Int)] 105
  gro : Grow wr w.heap.size p K ByteArray.empty (numsO Wd i xs) v
  low : Below w.heap.size w wr
  p1 : w.heap.size < p
theorem nums_more (Wd i : Nat) (xs : List Int) : numsO Wd (i + 1) xs = numsO Wd i xs ++ [numF ((xs.drop (i * Wd)).take Wd)] := by simp [numsO, List.range_succ]
theorem nums_len (Wd i : Nat) (xs : List Int) : (numsO Wd i xs).length = i := by simp [numsO]
theorem num_pow {xs : List Int} (hb : bytS xs) : ∀ k, k ≤ xs.length → 0 ≤ numF (xs.take k) ∧ numF (xs.take k) < 256 ^ k
  | 0, _ => by simp [numF]
  | k + 1, hk => by
    have h := num_pow hb k (by omega)
    have h2 := byt_at hb (k := k) (by omega)
    rw [num_take (by omega), Int.pow_succ]
    omega
theorem num_u32 {xs : List Int} (hb : bytS xs) (hl : xs.length ≤ 4) : 0 ≤ numF xs ∧ numF xs ≤ 4294967295 := by
  have h := num_pow hb xs.length (Nat.le_refl _)
  rw [List.take_of_length_le (Nat.le_refl _)] at h
  have h2 : (256 : Int) ^ xs.length ≤ 4294967296 := by
    rcases (show xs.length = 0 ∨ xs.length = 1 ∨ xs.length = 2 ∨ xs.length = 3 ∨ xs.length = 4 by omega) with e | e | e | e | e <;> rw [e] <;> decide
  omega
theorem nums_u32 {Wd i : Nat} {xs : List Int} (hb : bytS xs) (hw : Wd ≤ 4) : ∀ z ∈ numsO Wd i xs, 0 ≤ z ∧ z ≤ 4294967295 := by
  intro z hz
  simp only [numsO, List.mem_map] at hz
  obtain ⟨j, _, rfl⟩ := hz
  exact num_u32 (byt_take (byt_drop hb _) _) (by rw [List.length_take]; omega)
theorem rdg_more {w wr w1 w3 : World} {sh p Wd le mo : Nat} {K z : Int} {xs : List Int} {i g n1 c1 : Nat} {v : Value} (H : RdgAt w wr sh p Wd le mo K xs i v) (B : Below wr.heap.size wr w1) (hz : numF ((xs.drop (i * Wd)).take Wd) = z)
    (O : OwnN w3 w.heap.size (.slice (some ⟨g, 0, none⟩) n1 c1) (numsO Wd i xs ++ [z])) (G : w1.grownBy w3 v.ownBlock) :
    RdgAt w (w3.setCell ⟨p, 1, none⟩ (.slice (some ⟨g, 0, none⟩) n1 c1)) sh p Wd le mo K xs (i + 1) (.slice (some ⟨g, 0, none⟩) n1 c1) := by
  obtain ⟨h1, h2⟩ := grow_fin H.gro B O G
  have e2 := H.p1
  have hsp : sh ≠ p := fun e => by
    have h := H.shp
    rw [e] at h
    exact absurd (ty_one ⟨_, h⟩ ⟨_, H.gro.1⟩) (by decide)
  refine ⟨H.res.out h2 (gro_far ⟨_, H.res⟩ (by decide) (by omega)), H.shp.out h2 (gro_far ⟨_, H.shp⟩ (by decide) hsp), ?_, H.low.trans (gro_below h2 H.low.size (by omega) (Nat.le_refl _)), H.p1⟩
  rw [nums_more, hz]
  exact h1
def RdgI (w : World) (g sh p Wd le mo M : Nat) (K : Int) (xs : List Int) (gh : Nat) (vb : Value) (wr : World) : Prop :=
  ∃ (i o2 c2 rl : Nat) (v : Value), vb = .slice (some ⟨g, o2, none⟩) rl c2 ∧ rl = (M - i) * Wd ∧ M - i = gh ∧ i ≤ M ∧ rl ≤ c2 ∧ LsK .u8 w g (some ⟨g, o2, none⟩) (xs.drop (i * Wd)) ∧ RdgAt w wr sh p Wd le mo K xs i v
def CutR (w V : World) (g m : Nat) (K : Int) (ys : List Int) (vk vb : Value) (wx : World) : Prop := ∃ o1 c1 q : Nat, vk = .int .i64 K ∧ vb = .slice (some ⟨g, o1, none⟩) m c1 ∧ m ≤ c1 ∧ LsK .u8 w g (some ⟨g, o1, none⟩) (ys.drop 2) ∧ wx = V.drewN q
set_option maxRecDepth 100000 in
set_option maxHeartbeats 400000 in
theorem read_any (g off L c : Nat) (ys : List Int) (w : World) (h : LsK .u8 w g (some ⟨g, off, none⟩) ys) (hL : ys.length = L) (hb : bytS ys) (h2 : 2 ≤ L) (hc : L ≤ c) (hL3 : L ≤ 100) :
    Calls Try.prog 54 #[.slice (some ⟨g, off, none⟩) L c] w (ReadAny w ys (badO (bF ys 0) L)) := by
  have R0 := Blk.new w [.int .i64 0, .slice none 0 0, .string ⟨#[]⟩] 76
  have L0 := new_alloc (new_refl w) (.cells #[.int .i64 0, .slice none 0 0, .string ⟨#[]⟩] 76)
  have HV := Lib.hid (h.kept L0)
  have HV0 := Lib.hid h
  have b0 := bF_bd hb hL (i := 0) (by omega)
  have c0 := HV.out.at hL (i := 0) (by omega)
  rw [Nat.add_zero] at c0
  have HL := Lib.hid hL
  have HB := Lib.hid hb
  have HR := Lib.hid R0
  have k0 : (0 : Int) < (L : Int) := by omega
  have k1 : (2 : Int) ≤ (L : Int) := by omega
  have k2 : (L : Int) ≤ (c : Int) := by omega
  obtain ⟨m, hm⟩ : ∃ m, L - 2 = m := ⟨_, rfl⟩
  obtain ⟨K, hK⟩ : ∃ K, bF ys 0 = K := ⟨_, rfl⟩
  rw [hK] at b0 c0 ⊢
  have HK := Lib.hid hK
  have HM : Hid (L = m + 2) := Lib.hid (by omega)
  obtain ⟨z0, z1⟩ := b0
  have ek : IntKind.i64.wrap K = K := by rw [IntKind.wrap_i64]; omega
  clear h hL hb R0 hK
  go_enter Try.func54, Try.ntmps54
  go_upto_region 1 with (fail)
  generalize w.alloc (.cells #[.int .i64 0, .slice none 0 0, .string ⟨#[]⟩] 76) = V at *
  go_cut [4, 5] (fun vk vb wx => CutR w V g m K ys vk vb wx)
  case first =>
    by_cases hc2 : c = 2
    · have HD : Hid (LsK .u8 w g (some ⟨g, off, none⟩) (ys.drop 2)) := Lib.hid (.inl (List.drop_eq_nil_of_le (by have := HL.out; omega)))
      have hm0 : m ≤ 0 := by omega
      go_quiet (fail)
      go_wp2_with fail
      go_meet
      case rel => exact ⟨off, 0, _, rfl, rfl, hm0, HD.out, rfl⟩
    · have HD := Lib.hid (ls_drop HV0.out 2)
      have hm0 : m ≤ c - 2 := by omega
      go_quiet (fail)
      go_wp2_with fail
      go_meet
      case rel => exact ⟨off + 2, c - 2, _, rfl, rfl, hm0, HD.out, rfl⟩
  case rest =>
    obtain ⟨o1, c1, q, rfl, rfl, hmc, hd, rfl⟩ := hcut
    have R1 := Lib.hid (HR.out.draw q)
    have L1 := new_draw L0 q
    have HD := Lib.hid hd
    clear hd HR HV HV0 c0 L0
    generalize V.drewN q = W at *
    have HLd : Hid ((ys.drop 2).length = m) := Lib.hid (by rw [List.length_drop, HL.out]; exact hm)
    have HO : Hid (optO ys = if szO K = 0 then ⟨K, [], strOfNums (ys.drop 2)⟩ else ⟨K, numsO (szO K) (m / szO K) (ys.drop 2), ByteArray.empty⟩) := Lib.hid (by rw [optO, HK.out, HL.out, hm])
    have HBd : Hid (badO K L = (knO K && (decide (m % szO K ≠ 0) || !mayO K (m / szO K)))) := Lib.hid (by rw [badO, hm])
    clear hm k0 k1 k2 ek
    cases hkn : knO K
    · have hs0 : szO K = 0 := kn_not.1 hkn
      have HO1 : Hid (optO ys = ⟨K, [], strOfNums (ys.drop 2)⟩) := Lib.hid (by rw [HO.out, if_pos hs0])
      have HB1 : Hid (badO K L = false) := Lib.hid (by rw [HBd.out, hkn]; rfl)
      have SK := Lib.hid (fun w => shapeK K false hkn w)
      clear hs0 hkn HO HBd
      generalize szO K = w0 at *
      generalize leO K = w1 at *
      generalize moO K = w2 at *
      go_wp2_with (first
        | (go_at_call 62; refine (SK.out _).mono ?_; rintro e wa ⟨rfl, Ba⟩
           have Bb := new_alloc Ba (.cells #[.int .i64 (w0 : Int), .int .i64 (w1 : Int), .int .i64 (w2 : Int)] 105)
           have t1 := text12_ls (c := c1) (HD.out.kept (new_then L1 Bb)) HLd.out
           have R2 := R1.out.kept Bb
           have r0 := R2.cell 0 rfl
           have r1 := R2.cell 1 rfl
           have r2 := R2.cell 2 rfl
           have f0 := R2.frozen 0
           have f1 := R2.frozen 1
           have f2 := R2.frozen 2))
      exact bodyPost_ret (v := .tuple #[.agg #[.int .i64 K, .slice none 0 0, .string (strOfNums (ys.drop 2))], .bool true]) (by simp [results, Try.results54, go_sem, r0, r1, r2]) rfl (read_yes HB1.out HO1.out rfl (has_raw _ _ _ (by rw [str_size, HLd.out]; have := HM.out; omega)) (.inl rfl) (new_set3 (new_then L1 Bb) (Nat.le_refl _) _ _ _))
    · have hs0 : szO K ≠ 0 := kn_is.1 hkn
      have hs2 := sz_two hs0
      have hs4 := sz_four K
      have hm3 := mo_three K
      have HO1 : Hid (optO ys = ⟨K, numsO (szO K) (m / szO K) (ys.drop 2), ByteArray.empty⟩) := Lib.hid (by rw [HO.out, if_neg hs0])
      have HB1 : Hid (badO K L = (decide (m % szO K ≠ 0) || !(decide (leO K ≤ m / szO K) && decide (m / szO K ≤ moO K)))) := Lib.hid (by rw [HBd.out, hkn]; rfl)
      have SK := Lib.hid (fun w => shapeK K true hkn w)
      clear hs0 hkn HO HBd
      generalize szO K = Wd at *
      generalize leO K = le at *
      generalize moO K = mo at *
      have e1 : (m : Int).tdiv (Wd : Int) = ((m / Wd : Nat) : Int) := by rw [Int.tdiv_eq_ediv_of_nonneg (by omega)]; simp
      have e2 : (m : Int).tmod (Wd : Int) = ((m % Wd : Nat) : Int) := by rw [Int.tmod_eq_emod_of_nonneg (by omega)]; simp
      have e3 : (m : Int) / (Wd : Int) = ((m / Wd : Nat) : Int) := by simp
      have e4 : (m : Int) % (Wd : Int) = ((m % Wd : Nat) : Int) := by simp
      have HDM := Lib.hid (Nat.div_add_mod m Wd)
      have hMm : m / Wd ≤ m := Nat.div_le_self m Wd
      generalize m / Wd = M at *
      generalize m % Wd = r at *
      have w0 : (Wd : Int) ≠ 0 := by omega
      have w1 : (0 : Int) ≤ (m : Int) := by omega
      have w2 : (0 : Int) < (Wd : Int) := by omega
      have w3 : ¬ Wd = 0 := by omega
      have w4 : M ≤ 100 := by have := HM.out; omega
      have w5 : IntKind.i64.wrap (M : Int) = (M : Int) := by rw [IntKind.wrap_i64]; omega
      go_upto_region 5 with (first
        | (go_at_call 62; refine (SK.out _).mono ?_; rintro e wa ⟨rfl, Ba⟩))
      have Bb := new_alloc Ba (.cells #[.int .i64 (Wd : Int), .int .i64 (le : Int), .int .i64 (mo : Int)] 105)
      have S2 := Blk.new wa [.int .i64 (Wd : Int), .int .i64 (le : Int), .int .i64 (mo : Int)] 105
      have L2 := new_then L1 Bb
      have HR2 := Lib.hid (R1.out.kept Bb)
      have hsh : w.heap.size < wa.heap.size := Nat.lt_of_lt_of_le R1.out.lt Ba.size
      clear R1 L1 Ba Bb SK
      generalize wa.alloc (.cells #[.int .i64 (Wd : Int), .int .i64 (le : Int), .int .i64 (mo : Int)] 105) = W2 at *
      generalize wa.heap.size = sh at *
      obtain ⟨B, hB⟩ : ∃ B, (decide (r ≠ 0) || !(decide (le ≤ M) && decide (M ≤ mo))) = B := ⟨_, rfl⟩
      have HBB := Lib.hid hB
      have HB2 : Hid (badO K L = B) := Lib.hid (by rw [HB1.out, hB])
      clear HB1 hB
      go_cut [41] (fun v wx => v = .bool B ∧ Below W2.heap.size W2 wx)
      case first =>
        have s0 := S2.cell 0 rfl
        have s1 := S2.cell 1 rfl
        have s2 := S2.cell 2 rfl
        by_cases hr : r = 0
        · subst hr
          have CA := Lib.hid (fun w => allows_any Wd le mo M w)
          have hB1 : (!(decide (le ≤ M) && decide (M ≤ mo))) = B := by rw [← HBB.out]; simp
          generalize (decide (le ≤ M) && decide (M ≤ mo)) = my at *
          go_region_held3 (fun w' => w'.cell? ⟨sh, 0, none⟩ = some (.int .i64 (Wd : Int)) ∧ w'.cell? ⟨sh, 1, none⟩ = some (.int .i64 (le : Int)) ∧ w'.cell? ⟨sh, 2, none⟩ = some (.int .i64 (mo : Int)))
            (first | go_keep | assumption | exact three_kept B16 (by assumption) | exact three_kept B16 ⟨by assumption, by assumption, by assumption⟩)
            (first
              | (go_at_call 69; refine (CA.out _).mono ?_; rintro e w5 ⟨rfl, B16⟩; replace B16 := new_undrew B16))
          all_goals
            go_wp2_with fail
            go_meet
            case rel => exact ⟨by rw [← hB1], B16⟩
        · obtain rfl : B = true := by rw [← HBB.out]; simp [hr]
          have e5 : ((r : Int) != 0) = true := by simp; omega
          have e6 : ¬ (r : Int) = 0 := by omega
          go_quiet (fail)
          go_wp2_with fail
          go_meet
          case rel => exact ⟨rfl, new_draw (new_refl W2) _⟩
      case rest =>
        obtain ⟨rfl, B3⟩ := hcut
        have R3 := Lib.hid (HR2.out.kept B3)
        have S3 := Lib.hid (S2.kept B3)
        have L3 := new_then L2 B3
        clear HR2 S2 L2 B3
        cases B
        · have hB3 := HBB.out
          simp only [ne_eq, decide_not, Bool.or_eq_false_iff, Bool.not_eq_false', decide_eq_true_eq, Bool.and_eq_true] at hB3
          obtain ⟨hr0, hl1, hl2⟩ := hB3
          subst hr0
          have hM3 : M ≤ 3 := by omega
          have HMW : Hid (m = M * Wd) := Lib.hid (by have := HDM.out; rw [Nat.mul_comm]; omega)
          obtain ⟨xs, hxs⟩ : ∃ xs, ys.drop 2 = xs := ⟨_, rfl⟩
          rw [hxs] at HD HO1 HLd
          have HXB : Hid (bytS xs) := Lib.hid (by rw [← hxs]; exact byt_drop HB.out 2)
          clear HBB HDM e1 e2 e3 e4 hl1 hl2 hxs HB w4 w5 hMm
          have hpl : w.heap.size < wc.heap.size := R3.out.lt
          have R4 : RdgAt w (wc.alloc (.cells #[.int .i64 K, .slice none 0 0, .string ByteArray.empty] 76)) sh wc.heap.size Wd le mo K xs 0 (.slice none 0 0) :=
            ⟨R3.out.alloc _, S3.out.alloc _, ⟨Blk.new wc [.int .i64 K, .slice none 0 0, .string ByteArray.empty] _, OwnK.nil _ _ _ _⟩, new_alloc L3 _, hpl⟩
          have HR4 := Lib.hid R4
          clear R4 R3 S3 L3 hpl
          go_wp2_with fail
          generalize wc.heap.size = p at *
          go_loopg [5] M (fun gh vb wr => RdgI w g sh p Wd le mo M K xs gh vb wr)
          case atStart => exact ⟨0, o1, c1, m, _, rfl, by rw [HMW.out, Nat.sub_zero], rfl, by omega, hmc, by simpa using HD.out, HR4.out⟩
          case round =>
            clear HR4 HD
            obtain ⟨i, o2, c2, rl, v, rfl, hrl, rfl, hi, hrc, hd, C⟩ := hrel
            have HRL := Lib.hid hrl
            have HC := Lib.hid C
            clear hrl
            by_cases hlt : i < M
            · obtain ⟨r2, hr2⟩ : ∃ r2, rl - Wd = r2 := ⟨_, rfl⟩
              have h0 : (M - i) * Wd = (M - (i + 1)) * Wd + Wd := by rw [show M - i = (M - (i + 1)) + 1 by omega, Nat.add_mul, Nat.one_mul]
              have HR2 : Hid (r2 = (M - (i + 1)) * Wd) := Lib.hid (by have := HRL.out; omega)
              have hrl2 : Wd ≤ rl := by have := HRL.out; omega
              have hsum : rl = r2 + Wd := by omega
              have k0 : (0 : Int) < (rl : Int) := by omega
              have k1 : (Wd : Int) ≤ (rl : Int) := by omega
              have k2 : (Wd : Int) ≤ (c2 : Int) := by omega
              have k3 : (0 : Int) ≤ (Wd : Int) := by omega
              have hdl : (xs.drop (i * Wd)).length = rl := by
                rw [List.length_drop, HLd.out, HMW.out, HRL.out, Nat.sub_mul]
              have HTL : Hid (((xs.drop (i * Wd)).take Wd).length = Wd) := Lib.hid (by rw [List.length_take, hdl]; omega)
              have HTB : Hid (bytS ((xs.drop (i * Wd)).take Wd)) := Lib.hid (byt_take (byt_drop HXB.out _) _)
              have HT := Lib.hid (ls_take (hd.kept C.low) Wd)
              have hdd : (xs.drop (i * Wd)).drop Wd = xs.drop ((i + 1) * Wd) := by rw [List.drop_drop, show i * Wd + Wd = (i + 1) * Wd by rw [Nat.add_mul, Nat.one_mul]]
              have HD1 : Hid (LsK .u8 w g (some ⟨g, o2 + Wd, none⟩) (xs.drop ((i + 1) * Wd))) := Lib.hid (by rw [← hdd]; exact ls_drop hd Wd)
              have HD2 : Hid (c2 = Wd → LsK .u8 w g (some ⟨g, o2, none⟩) (xs.drop ((i + 1) * Wd))) := Lib.hid (fun e => by rw [← hdd]; exact .inl (List.drop_eq_nil_of_le (by omega)))
              clear hdd
              obtain ⟨z, hz⟩ : ∃ z, numF ((xs.drop (i * Wd)).take Wd) = z := ⟨_, rfl⟩
              have HZ := Lib.hid hz
              have JC : Hid (Calls Try.prog 70 #[.slice (some ⟨g, o2, none⟩) Wd c2] wr.drew fun e w' => e = .returned (.int .u32 z) ∧ wr.drew = w') := Lib.hid (by rw [← hz]; exact join12_any g o2 Wd c2 _ wr.drew HT.out HTL.out HTB.out hs4)
              have zb := num_u32 HTB.out (by rw [HTL.out]; exact hs4)
              rw [hz] at zb
              obtain ⟨z2, z3⟩ := zb
              have b1 := C.gro.1.cell 1 rfl
              have bf := C.gro.1.frozen 1
              have s0 := C.shp.cell 0 rfl
              have HBl := Lib.hid C.gro.1
              have HOn := Lib.hid C.gro.2
              have HLN : Hid ((numsO Wd i xs).length + 1 = i + 1) := Lib.hid (by rw [nums_len])
              have hbs := C.low.size
              have hi1 : i + 1 ≤ 1000000000 := by omega
              have vb1 : ∀ o, (wr.alloc o).cell? ⟨p, 1, none⟩ = some v := fun o => (C.gro.1.alloc o).cell 1 rfl
              have hpn : ¬ p = wr.heap.size := by have := C.gro.1.lt; omega
              clear C hz hd hdl h0 hr2
              go_wp2_with fail
              go_region_law
                (first
                  | (refine step_pushK elN (o := ⟨some 60, _, _, _, _, _⟩) rfl _ _ rfl w.heap.size v (numsO Wd i xs) z _ 1 rfl rfl ?_ ?_ (i + 1) HLN.out hi1 ?_ _ rfl ?_
                     · exact (At.new wr.drew [.int .u32 z] _).cell 0 rfl
                     · exact OwnK.alloc (w := wr.drew) HOn.out _
                     · exact alloc_le (W := wr.drew) hbs _
                     intro g3 c3 w3 O3 G3 hat3 hlt3
                     have F3 := rdg_more HC.out (new_alloc (new_drew (new_refl wr)) _) HZ.out O3 G3
                     have Q3 := ((Blk.alloc (w := wr.drew) HBl.out _).out (out_pushE G3) (fun e => absurd (ty_one (own_ty HOn.out e) ⟨_, HBl.out⟩) (by decide)))
                     have q0 := Q3.cell 1 rfl
                     have q1 := Q3.frozen 1)
                  | (go_simp; go_at_call 70; refine JC.out.mono ?_; rintro e w5 ⟨rfl, hw5⟩; subst hw5; dsimp only))
              all_goals
                have s0' := F3.shp.cell 0 rfl
                clear b1 bf s0 vb1 Q3 q0 q1
                by_cases hcw : c2 = Wd
                · have HD3 := Lib.hid (HD2.out hcw)
                  clear HD2
                  subst hcw
                  go_wp2_with fail
                  go_roundg (M - (i + 1))
                  case measure => omega
                  case rel => exact ⟨i + 1, o2, _, r2, _, rfl, HR2.out, rfl, by omega, by omega, HD3.out, F3⟩
                · go_wp2_with fail
                  go_roundg (M - (i + 1))
                  case measure => omega
                  case rel => exact ⟨i + 1, o2 + Wd, _, r2, _, rfl, HR2.out, rfl, by omega, by omega, HD1.out, F3⟩
            · obtain rfl : i = M := by omega
              obtain rfl : rl = 0 := by have := HRL.out; rw [Nat.sub_self, Nat.zero_mul] at this; exact this
              obtain ⟨A, n, cp, rfl, hn⟩ := C.gro.form
              have b0 := C.gro.1.cell 0 rfl
              have b1 := C.gro.1.cell 1 rfl
              have b2 := C.gro.1.cell 2 rfl
              have r0 := C.res.cell 0 rfl
              have r1 := C.res.cell 1 rfl
              have r2 := C.res.cell 2 rfl
              have f0 := C.res.frozen 0
              have f1 := C.res.frozen 1
              have f2 := C.res.frozen 2
              have L := C.low
              have E := Lib.hid (C.gro.has (nums_u32 HXB.out hs4) (by rw [nums_len]; omega) (by decide)).1
              have F := Lib.hid (far_own (o := ⟨K, numsO Wd i xs, ByteArray.empty⟩) C.gro.2)
              clear C hn hd
              go_wp2_with fail
              exact bodyPost_ret (v := .tuple #[.agg #[.int .i64 K, .slice A n cp, .string ByteArray.empty], .bool true]) (by simp [results, Try.results54, go_sem, r0, r1, r2]) rfl (read_yes HB2.out HO1.out rfl (E.out.apart3 HC.out.res) (((F.out.apart _).apart _).apart _) (new_set3 L (Nat.le_refl _) _ _ _))
        · have r0 := R3.out.cell 0 rfl
          have r1 := R3.out.cell 1 rfl
          have r2 := R3.out.cell 2 rfl
          have f0 := R3.out.frozen 0
          have f1 := R3.out.frozen 1
          have f2 := R3.out.frozen 2
          go_wp2_with fail
          exact bodyPost_ret (v := .tuple #[.agg #[.int .i64 0, .slice none 0 0, .string ByteArray.empty], .bool false]) (by simp [results, Try.results54, go_sem, r0, r1, r2]; rfl) rfl (read_no HB2.out ⟨rfl, new_set3 L3 (Nat.le_refl _) _ _ _⟩)
end Go.Proofs.Ytnkcnfkonifmhaa
