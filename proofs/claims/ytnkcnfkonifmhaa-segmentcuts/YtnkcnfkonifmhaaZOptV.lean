/- Plain facts: options there and back. -/
import Derived.Test.YtnkcnfkonifmhaaZOptT
import Derived.Test.YtnkcnfkonifmhaaZOptI
namespace Go.Proofs.Ytnkcnfkonifmhaa
open Go.RowKit
set_option linter.unusedVariables false

theorem num_put : ∀ (w : Nat) (z : Int), 0 ≤ z → z < 256 ^ w → numF (putF z w) = z
  | 0, z, h0, h1 => by
    simp at h1
    simp [putF, numF]
    omega
  | w + 1, z, h0, h1 => by
    rw [putF, num_snoc, num_put w (z / 256) (by omega) (by rw [Int.pow_succ] at h1; omega)]
    omega
theorem put_byt : ∀ (w : Nat) (z : Int), bytS (putF z w)
  | 0, z => fun x hx => by simp [putF] at hx
  | w + 1, z => by
    rw [putF]
    exact byt_app (put_byt w (z / 256)) (fun x hx => by simp at hx; subst hx; omega)
theorem put_part (w : Nat) : ∀ (zs : List Int) (j : Nat) (h : j < zs.length), ((zs.flatMap (fun z => putF z w)).drop (j * w)).take w = putF zs[j] w
  | z :: zs, 0, h => by
    rw [Nat.zero_mul, List.drop_zero, List.flatMap_cons, List.take_append_of_le_length (by rw [putF_len]; exact Nat.le_refl _), List.take_of_length_le (by rw [putF_len]; exact Nat.le_refl _)]
    rfl
  | z :: zs, j + 1, h => by
    have ih := put_part w zs j (by simpa using h)
    rw [List.flatMap_cons, Nat.add_mul, Nat.one_mul, Nat.add_comm, ← List.drop_drop, List.drop_append_of_le_length (by rw [putF_len]; exact Nat.le_refl _), show (putF z w).drop w = [] from List.drop_of_length_le (by rw [putF_len]; exact Nat.le_refl _), List.nil_append, ih]
    rfl
theorem nums_back {w : Nat} {zs : List Int} (h : ∀ z ∈ zs, 0 ≤ z ∧ z < 256 ^ w) : numsO w zs.length (zs.flatMap (fun z => putF z w)) = zs := by
  apply List.ext_getElem
  · rw [nums_len]
  · intro j h1 h2
    simp only [numsO, List.getElem_map, List.getElem_range]
    rw [put_part w zs j h2]
    have := h zs[j] (List.getElem_mem _)
    exact num_put w _ this.1 this.2
theorem empty_of {s : ByteArray} (h : s.size = 0) : s = ByteArray.empty := by
  obtain ⟨⟨l⟩⟩ := s
  have : l = [] := List.eq_nil_of_length_eq_zero h
  subst this
  rfl
/-- Its numbers are not below 0. -/
def posO (o : Opt) : Prop := ∀ z ∈ o.zs, 0 ≤ z
theorem fine_not {o : Opt} (h : fineO o = true) (hs : szO o.k = 0) : o.zs = [] := by
  simp only [fineO, hs, if_true, Bool.and_eq_true, decide_eq_true_eq] at h
  exact List.eq_nil_of_length_eq_zero h.2
theorem fine_yes {o : Opt} (h : fineO o = true) (hs : szO o.k ≠ 0) : mayO o.k o.zs.length = true ∧ (∀ z ∈ o.zs, z < 256 ^ szO o.k) ∧ o.s = ByteArray.empty := by
  simp only [fineO, hs, if_false, Bool.and_eq_true, decide_eq_true_eq, List.all_eq_true] at h
  exact ⟨h.2.1.1, h.2.1.2, empty_of h.2.2⟩
theorem byt_zero (o : Opt) : bF (bytO o) 0 = o.k := rfl
theorem byt_one (o : Opt) : bF (bytO o) 1 = (lenO o : Int) := rfl
theorem byt_two (o : Opt) : (bytO o).drop 2 = o.zs.flatMap (fun z => putF z (szO o.k)) ++ sb o.s := rfl
/-- The option of an option's bytes. -/
theorem opt_back {o : Opt} (h : fineO o = true) (hp : posO o) : optO (bytO o) = o := by
  obtain ⟨k, zs, s⟩ := o
  rw [optO, byt_zero, byt_two, bytO_len]
  by_cases hs : szO k = 0
  · have hz := fine_not h hs
    simp only at hz
    subst hz
    rw [if_pos hs]
    simp [sb_back]
  · obtain ⟨h1, h2, h3⟩ := fine_yes h hs
    simp only at h1 h2 h3
    subst h3
    rw [if_neg hs, lenO]
    have hsz : 0 < szO k := Nat.pos_of_ne_zero hs
    have e1 : (2 + szO k * zs.length + ByteArray.empty.size - 2) / szO k = zs.length := by
      rw [show ByteArray.empty.size = 0 from rfl, Nat.add_zero, Nat.add_sub_cancel_left, Nat.mul_div_cancel_left _ hsz]
    have e2 : sb ByteArray.empty = [] := rfl
    simp only [e1, e2, List.append_nil]
    rw [nums_back (fun z hz => ⟨hp z hz, h2 z hz⟩)]
theorem bad_not {o : Opt} (h : fineO o = true) : badO o.k (lenO o) = false := by
  by_cases hs : szO o.k = 0
  · simp [badO, knO, hs]
  · obtain ⟨h1, h2, h3⟩ := fine_yes h hs
    have hsz : 0 < szO o.k := Nat.pos_of_ne_zero hs
    have e1 : lenO o - 2 = szO o.k * o.zs.length := by rw [lenO, h3, show ByteArray.empty.size = 0 from rfl]; omega
    rw [badO, e1, Nat.mul_mod_right, Nat.mul_div_cancel_left _ hsz, h1]
    simp
theorem bF_app (xs ys : List Int) (i : Nat) (h : i < xs.length) : bF (xs ++ ys) i = bF xs i := by rw [bF, bF, List.getElem?_append_left h]
theorem lenO_two (o : Opt) : 2 ≤ lenO o := by unfold lenO; omega
theorem par_zeros (k : Nat) (pre : List Opt) : parO (List.replicate k 0) pre = (pre, 0) := by
  cases k with
  | zero => exact par_nil pre
  | succ k => rw [par_end pre (by simp) (by simp [bF]), if_pos (by simp)]
theorem par_back (k : Nat) : ∀ (os pre : List Opt) (many : Nat), (∀ o ∈ os, posO o) → chkO pre os many = 0 → parO (allO os ++ List.replicate k 0) pre = (pre ++ os, 0)
  | [], pre, many, _, _ => by rw [show allO [] = [] from rfl, List.nil_append, List.append_nil]; exact par_zeros k pre
  | o :: r, pre, many, hp, h => by
    rw [chkO] at h
    split at h
    · rename_i hf
      split at h
      · cases h
      · rename_i hh
        have hh' : hadO pre o.k = false := by simpa using hh
        have ih := par_back k r (pre ++ [o]) _ (fun x hx => hp x (List.mem_cons_of_mem _ hx)) h
        have hk := fine_kind hf
        have hl2 := lenO_two o
        have hbl := bytO_len o
        rw [allO_cons, List.append_assoc]
        have e0 : bF (bytO o ++ (allO r ++ List.replicate k 0)) 0 = o.k := by rw [bF_app _ _ _ (by omega), byt_zero]
        have e1 : bF (bytO o ++ (allO r ++ List.replicate k 0)) 1 = (lenO o : Int) := by rw [bF_app _ _ _ (by omega), byt_one]
        have hlen : lenO o ≤ (bytO o ++ (allO r ++ List.replicate k 0)).length := by rw [List.length_append, hbl]; omega
        rw [par_go pre (by omega) (by rw [e0]; omega) (by rw [e0]; omega) (by rw [e1]; omega) (by rw [e1]; omega) (by rw [e0, e1, Int.toNat_natCast, bad_not hf, hh']; rfl)]
        rw [e1, Int.toNat_natCast, List.drop_append_of_le_length (by omega), List.drop_of_length_le (by omega), List.nil_append, List.take_append_of_le_length (by omega), List.take_of_length_le (by omega), opt_back hf (hp o (List.mem_cons_self ..)), ih, List.append_assoc]
        rfl
    · cases h
/-- What is printed is parsed as it was. -/
theorem back_one {os : List Opt} (hp : ∀ o ∈ os, posO o) (h : chkO [] os 0 = 0) : parA (padO (allO os)) = (os, 0) ∧ (padO (allO os)).length % 4 = 0 ∧ (padO (allO os)).length ≤ 40 := by
  have h1 := (chk_ok os [] 0 h).2
  have h2 : (padO (allO os)).length ≤ 40 := by rw [padO, List.length_append, List.length_replicate]; omega
  refine ⟨?_, (padO_len _).1, h2⟩
  rw [parA, if_neg (by omega), padO, par_back _ os [] 0 hp h]
  rfl
/-- The option of bytes may be, and has as many. -/
theorem opt_good {ys : List Int} {s : Nat} (hl : ys.length = s) (h2 : 2 ≤ s) (hb : bytS ys) (h0 : bF ys 0 ≠ 0) (h1 : bF ys 0 ≠ 1) (hbad : badO (bF ys 0) s = false) : fineO (optO ys) = true ∧ lenO (optO ys) = s ∧ posO (optO ys) ∧ (optO ys).k = bF ys 0 := by
  have hk := bF_bd hb hl (i := 0) (by omega)
  have hbd : bytS (ys.drop 2) := byt_drop hb 2
  by_cases hs : szO (bF ys 0) = 0
  · have e : optO ys = ⟨bF ys 0, [], strOfNums (ys.drop 2)⟩ := by rw [optO, if_pos hs]
    rw [e]
    refine ⟨?_, ?_, fun z hz => (by cases hz), rfl⟩
    · simp only [fineO, hs, if_true, Bool.and_eq_true, decide_eq_true_eq]
      exact ⟨⟨by omega, by omega⟩, rfl⟩
    · rw [lenO, str_size, List.length_drop, hl]; simp; omega
  · have e : optO ys = ⟨bF ys 0, numsO (szO (bF ys 0)) ((s - 2) / szO (bF ys 0)) (ys.drop 2), ByteArray.empty⟩ := by rw [optO, if_neg hs, hl]
    have hkn : knO (bF ys 0) = true := kn_is.2 hs
    rw [badO, hkn, Bool.true_and, Bool.or_eq_false_iff] at hbad
    obtain ⟨hr, hmy⟩ := hbad
    have hr' : (s - 2) % szO (bF ys 0) = 0 := by simpa using hr
    have hmy' : mayO (bF ys 0) ((s - 2) / szO (bF ys 0)) = true := by simpa using hmy
    have hdm := Nat.div_add_mod (s - 2) (szO (bF ys 0))
    rw [e]
    refine ⟨?_, ?_, ?_, rfl⟩
    · simp only [fineO, hs, if_false, Bool.and_eq_true, decide_eq_true_eq, List.all_eq_true, nums_len]
      refine ⟨⟨by omega, by omega⟩, ⟨hmy', fun z hz => ?_⟩, rfl⟩
      simp only [numsO, List.mem_map, List.mem_range] at hz
      obtain ⟨j, hj, rfl⟩ := hz
      have hlen : ((ys.drop 2).drop (j * szO (bF ys 0))).length = s - 2 - j * szO (bF ys 0) := by rw [List.length_drop, List.length_drop, hl]
      have h3 : (j + 1) * szO (bF ys 0) ≤ (s - 2) / szO (bF ys 0) * szO (bF ys 0) := Nat.mul_le_mul_right _ hj
      rw [Nat.add_mul, Nat.one_mul, Nat.mul_comm ((s - 2) / szO (bF ys 0))] at h3
      exact (num_pow (byt_drop hbd _) (szO (bF ys 0)) (by omega)).2
    · rw [lenO]
      simp only [nums_len, show ByteArray.empty.size = 0 from rfl]
      omega
    · intro z hz
      exact (nums_u32 hbd (sz_four _) z hz).1
theorem par_valid : ∀ (n : Nat) (bs : List Int) (pre m : List Opt), bs.length = n → bytS bs → parO bs pre = (m, 0) →
    ∃ os, m = pre ++ os ∧ (∀ o ∈ os, posO o) ∧ (allO os).length ≤ bs.length ∧ ∀ many, many + bs.length ≤ 40 → chkO pre os many = 0 := by
  intro n
  induction n using Nat.strongRecOn with
  | ind n ih =>
    intro bs pre m hn hb h
    have base : m = pre → ∃ os, m = pre ++ os ∧ (∀ o ∈ os, posO o) ∧ (allO os).length ≤ bs.length ∧ ∀ many, many + bs.length ≤ 40 → chkO pre os many = 0 := fun e =>
      ⟨[], by rw [e, List.append_nil], fun o ho => (by cases ho), Nat.zero_le _, fun many hm => by rw [chkO, if_neg (by omega)]⟩
    by_cases e0 : bs.length = 0
    · rw [List.eq_nil_of_length_eq_zero e0, par_nil] at h
      exact base (Prod.mk.inj h).1.symm
    · by_cases z0 : bF bs 0 = 0
      · rw [par_end pre (by omega) z0] at h
        split at h
        · exact base (Prod.mk.inj h).1.symm
        · exact absurd (Prod.mk.inj h).2 (by decide)
      · by_cases z1 : bF bs 0 = 1
        · rw [par_pass pre (by omega) z1] at h
          obtain ⟨os, h1, h2, h3, h4⟩ := ih (bs.length - 1) (by omega) (bs.drop 1) pre m (by rw [List.length_drop]) (byt_drop hb 1) h
          rw [List.length_drop] at h3 h4
          exact ⟨os, h1, h2, by omega, fun many hm => h4 many (by omega)⟩
        · by_cases l1 : bs.length = 1
          · rw [par_one pre l1 z0 z1] at h
            exact absurd (Prod.mk.inj h).2 (by decide)
          · by_cases f2 : bF bs 1 < 2
            · rw [par_few pre (by omega) z0 z1 f2] at h
              exact absurd (Prod.mk.inj h).2 (by decide)
            · by_cases f3 : (bs.length : Int) < bF bs 1
              · rw [par_short pre (by omega) z0 z1 f2 f3] at h
                exact absurd (Prod.mk.inj h).2 (by decide)
              · cases hbd : (badO (bF bs 0) (bF bs 1).toNat || hadO pre (bF bs 0))
                · rw [par_go pre (by omega) z0 z1 f2 f3 hbd] at h
                  obtain ⟨s, hs⟩ : ∃ s, (bF bs 1).toNat = s := ⟨_, rfl⟩
                  rw [hs] at h hbd
                  have hs2 : 2 ≤ s := by omega
                  have hsl : s ≤ bs.length := by omega
                  rw [Bool.or_eq_false_iff] at hbd
                  have e1 : bF (bs.take s) 0 = bF bs 0 := by rw [bF, bF, List.getElem?_take, if_pos (by omega)]
                  obtain ⟨g1, g2, g3, g4⟩ := opt_good (ys := bs.take s) (s := s) (by rw [List.length_take]; omega) hs2 (byt_take hb s) (by rw [e1]; exact z0) (by rw [e1]; exact z1) (by rw [e1]; exact hbd.1)
                  obtain ⟨os, h1, h2, h3, h4⟩ := ih (bs.length - s) (by omega) (bs.drop s) _ m (by rw [List.length_drop]) (byt_drop hb s) h
                  rw [List.length_drop] at h3 h4
                  refine ⟨optO (bs.take s) :: os, by rw [h1, List.append_assoc]; rfl, ?_, ?_, ?_⟩
                  · intro o ho
                    rcases List.mem_cons.1 ho with rfl | ho
                    · exact g3
                    · exact h2 o ho
                  · rw [allO_cons, List.length_append, bytO_len, g2]; omega
                  · intro many hm
                    rw [chkO, if_pos g1, if_neg (by rw [g4, e1, hbd.2]; decide), g2]
                    exact h4 _ (by omega)
                · rw [par_bad pre (by omega) z0 z1 f2 f3 hbd] at h
                  exact absurd (Prod.mk.inj h).2 (by decide)
/-- What is parsed is printed, and parsed again, the same. -/
theorem back_two {bs : List Int} {m : List Opt} (hb : bytS bs) (h : parA bs = (m, 0)) : chkO [] m 0 = 0 ∧ parA (padO (allO m)) = (m, 0) ∧ (padO (allO m)).length ≤ bs.length + 3 := by
  have h40 : ¬ 40 < bs.length := by
    intro e
    rw [parA, if_pos e] at h
    exact absurd (Prod.mk.inj h).2 (by decide)
  rw [parA, if_neg h40] at h
  obtain ⟨os, h1, h2, h3, h4⟩ := par_valid _ bs [] m rfl hb h
  rw [List.nil_append] at h1
  subst h1
  have hc := h4 0 (by omega)
  refine ⟨hc, (back_one h2 hc).1, ?_⟩
  have := (padO_len (allO m)).2
  omega
end Go.Proofs.Ytnkcnfkonifmhaa
