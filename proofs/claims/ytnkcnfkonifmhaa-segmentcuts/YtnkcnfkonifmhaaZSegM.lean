/- Plain facts on whole segments: their bytes, their sum, a turned bit, there and back. -/
import Derived.Test.YtnkcnfkonifmhaaZFlgG
import Derived.Test.YtnkcnfkonifmhaaZSumX
import Derived.Test.YtnkcnfkonifmhaaZOptV
namespace Go.Proofs.Ytnkcnfkonifmhaa
open Go.RowKit
set_option linter.unusedVariables false

/-- A header with the first byte behind the options at a place, and with a sum. -/
def offG (h : Hd) (n : Nat) (c : Int) : Hd := { h with off := 5 + (n / 4 : Nat), sum := c }
/-- A segment's bytes. -/
def segB (h : Hd) (ops data : List Int) : List Int := hdF h ++ (ops ++ data)
theorem segB_len (h : Hd) (ops data : List Int) : (segB h ops data).length = 20 + ops.length + data.length := by
  rw [segB, List.length_append, List.length_append, hdF_len]; omega
theorem hd_drop (h : Hd) (ys : List Int) : (hdF h ++ ys).drop 20 = ys := rfl
/-- The sum's bytes stand at 16 and 17. -/
theorem hd_sum (h : Hd) (c : Int) : hdF { h with sum := c } = fillS (hdF { h with sum := 0 }) 16 (c / 256) (c % 256) := rfl
theorem seg_sum (h : Hd) (c : Int) (ys : List Int) : hdF { h with sum := c } ++ ys = fillS (hdF { h with sum := 0 } ++ ys) 16 (c / 256) (c % 256) := rfl
theorem seg_zero (h : Hd) (ys : List Int) : fillS (hdF { h with sum := 0 } ++ ys) 16 0 0 = hdF { h with sum := 0 } ++ ys := rfl
theorem fill_app (ps zs : List Int) (p : Nat) (a b : Int) : ps ++ fillS zs p a b = fillS (ps ++ zs) (ps.length + p) a b := by
  rw [fillS, fillS, List.take_append, List.drop_append, show ps.length + p + 2 - ps.length = p + 2 by omega, show ps.length + p - ps.length = p by omega, List.take_of_length_le (show ps.length ≤ ps.length + p by omega), List.drop_of_length_le (show ps.length ≤ ps.length + p + 2 by omega), List.nil_append, List.append_assoc]
/-- The sum of what stands ahead and the bytes, with a sum of 0; filled in, all is verified. -/
theorem seg_full {ps : List Int} (hp : ps.length = 12) (h : Hd) (ys : List Int) (hb : bytS (ps ++ (hdF { h with sum := 0 } ++ ys))) {c : Int} (hc : ckS (ps ++ (hdF { h with sum := 0 } ++ ys)) = c) : ckS (ps ++ (hdF { h with sum := c } ++ ys)) = 0 := by
  have e0 : fillS (ps ++ (hdF { h with sum := 0 } ++ ys)) 28 0 0 = ps ++ (hdF { h with sum := 0 } ++ ys) := by
    have := fill_app ps (hdF { h with sum := 0 } ++ ys) 16 0 0
    rw [seg_zero, hp] at this
    exact this.symm
  have e1 : chkS (ps ++ (hdF { h with sum := 0 } ++ ys)) 28 = c := by rw [chkS, e0, ← hc]; rfl
  have e2 : ps ++ (hdF { h with sum := c } ++ ys) = filS (ps ++ (hdF { h with sum := 0 } ++ ys)) 28 := by
    rw [filS, e1, seg_sum, fill_app, hp]
  rw [e2]
  exact fil_zero (by rw [List.length_append, List.length_append, hp, hdF_len]; omega) (by decide) hb

/-- A byte with one bit turned. -/
def flipG (x : Int) (j : Nat) : Int := if x / 2 ^ j % 2 = 0 then x + 2 ^ j else x - 2 ^ j
theorem flip_n : ∀ n : Nat, n < 256 → ∀ j : Nat, j < 8 → ((n ^^^ (1 <<< j) : Nat) : Int) = flipG (n : Int) j ∧ (n ^^^ (1 <<< j)) < 256 := by decide +kernel
theorem flip_bd {x : Int} {j : Nat} (hx : 0 ≤ x ∧ x ≤ 255) (hj : j < 8) : 0 ≤ flipG x j ∧ flipG x j ≤ 255 := by
  obtain ⟨h1, h2⟩ := flip_n x.toNat (by omega) j hj
  rw [show ((x.toNat : Nat) : Int) = x by omega] at h1
  omega
theorem pw_cases {j : Nat} (h : j < 8) : (2 : Int) ^ j = 1 ∨ (2 : Int) ^ j = 2 ∨ (2 : Int) ^ j = 4 ∨ (2 : Int) ^ j = 8 ∨ (2 : Int) ^ j = 16 ∨ (2 : Int) ^ j = 32 ∨ (2 : Int) ^ j = 64 ∨ (2 : Int) ^ j = 128 := by
  rcases (show j = 0 ∨ j = 1 ∨ j = 2 ∨ j = 3 ∨ j = 4 ∨ j = 5 ∨ j = 6 ∨ j = 7 by omega) with rfl | rfl | rfl | rfl | rfl | rfl | rfl | rfl <;> decide
theorem sm_set : ∀ (xs : List Int) (i p : Nat) (y : Int) (h : p < xs.length), smS i (xs.set p y) = smS i xs + wtS (i + p) * (y - xs[p])
  | x :: xs, i, 0, y, h => by
    simp only [List.set_cons_zero, smS, List.getElem_cons_zero, Nat.add_zero, Int.mul_sub]
    omega
  | x :: xs, i, p + 1, y, h => by
    have := sm_set xs (i + 1) p y (by simpa using h)
    simp only [List.set_cons_succ, smS, this, List.getElem_cons_succ]
    rw [show i + 1 + p = i + (p + 1) by omega]
    omega
/-- What is verified is so no more when a bit is turned. -/
theorem turned {zs : List Int} (hb : bytS zs) (hv : ckS zs = 0) {p j : Nat} (hp : p < zs.length) (hj : j < 8) : ckS (zs.set p (flipG zs[p] j)) ≠ 0 := by
  have h0 := (sm_bd 0 zs hb).1
  have hx := hb zs[p] (List.getElem_mem _)
  have hf := flip_bd hx hj
  have hbs : bytS (zs.set p (flipG zs[p] j)) := by
    intro x hx'
    rcases List.mem_or_eq_of_mem_set hx' with h | rfl
    · exact hb x h
    · exact hf
  have h1 := (sm_bd 0 _ hbs).1
  rw [sm_set zs 0 p _ hp, Nat.zero_add] at h1
  unfold ckS at hv ⊢
  rw [sm_set zs 0 p _ hp, Nat.zero_add]
  generalize smS 0 zs = t at *
  have hd : flipG zs[p] j - zs[p] = 2 ^ j ∨ flipG zs[p] j - zs[p] = - 2 ^ j := by
    unfold flipG
    split <;> omega
  have hw : wtS p = 256 ∨ wtS p = 1 := by unfold wtS; split <;> simp
  generalize flipG zs[p] j - zs[p] = d at *
  have pc := pw_cases hj
  generalize (2 : Int) ^ j = q at *
  unfold rdS at hv ⊢
  rcases hw with e | e <;> rw [e] at h1 ⊢ <;> (split at hv <;> split <;> omega)
theorem turned_app {ps b : List Int} (hb : bytS (ps ++ b)) (hv : ckS (ps ++ b) = 0) {p j : Nat} (hp : p < b.length) (hj : j < 8) : ckS (ps ++ b.set p (flipG (b[p]'hp) j)) ≠ 0 := by
  have h := turned hb hv (p := ps.length + p) (by rw [List.length_append]; omega) hj
  rw [List.getElem_append_right (by omega)] at h
  simp only [Nat.add_sub_cancel_left] at h
  rw [List.set_append_right _ _ (by omega)] at h
  simp only [Nat.add_sub_cancel_left] at h
  exact h

/-- Two addresses' bytes, and what stands ahead of a segment of so many bytes. -/
structure Ad where
  a : Int
  b : Int
  c : Int
  d : Int
  e : Int
  f : Int
  g : Int
  h : Int
def Ad.ok (x : Ad) : Prop := bytS [x.a, x.b, x.c, x.d, x.e, x.f, x.g, x.h]
def pseG (x : Ad) (n : Nat) : List Int := pseS x.a x.b x.c x.d x.e x.f x.g x.h 6 (n : Int)
theorem pseG_len (x : Ad) (n : Nat) : (pseG x n).length = 12 := rfl
theorem pseG_byt {x : Ad} (h : x.ok) (n : Nat) : bytS (pseG x n) := by
  have h' : ∀ y ∈ [x.a, x.b, x.c, x.d, x.e, x.f, x.g, x.h], 0 ≤ y ∧ y ≤ 255 := h
  intro y hy
  simp only [pseG, pseS, List.mem_cons, List.not_mem_nil, or_false] at hy
  simp only [List.mem_cons, List.not_mem_nil, or_false, forall_eq_or_imp, forall_eq] at h'
  omega
/-- The bytes of a segment, and what is wrong. -/
def encG (x : Ad) (h : Hd) (os : List Opt) (d : List Int) : List Int × Int :=
  if chkO [] os 0 ≠ 0 then ([], chkO [] os 0)
  else if 65000 < d.length then ([], 4)
  else if 7 < h.ace ∨ 63 < h.fl then ([], 2)
  else (segB (offG h (padO (allO os)).length (ckS (pseG x (20 + (padO (allO os)).length + d.length) ++ segB (offG h (padO (allO os)).length 0) (padO (allO os)) d))) (padO (allO os)) d, 0)
/-- The segment of bytes: its header, its options, its data, and what is wrong. -/
def decG (x : Ad) (bs : List Int) : (Hd × List Opt × List Int) × Int :=
  if bs.length < 20 then ((zeroH, [], []), 3)
  else if ¬ (80 ≤ bF bs 12 ∧ bF bs 12 % 16 ≤ 1) then ((zeroH, [], []), 5)
  else if (bs.length : Int) < 4 * (bF bs 12 / 16) then ((zeroH, [], []), 3)
  else if 65535 < bs.length then ((zeroH, [], []), 4)
  else if ckS (pseG x bs.length ++ bs) ≠ 0 then ((zeroH, [], []), 6)
  else if (parA ((bs.drop 20).take ((4 * (bF bs 12 / 16)).toNat - 20))).2 ≠ 0 then ((zeroH, [], []), (parA ((bs.drop 20).take ((4 * (bF bs 12 / 16)).toNat - 20))).2)
  else ((decF bs, (parA ((bs.drop 20).take ((4 * (bF bs 12 / 16)).toNat - 20))).1, bs.drop (4 * (bF bs 12 / 16)).toNat), 0)
theorem off_ok {h : Hd} (ok : HdOk h) {n : Nat} (hn : n ≤ 40) {c : Int} (hc : 0 ≤ c ∧ c ≤ 65535) : HdOk (offG h n c) :=
  ⟨ok.src, ok.dst, ok.seq, ok.ack, by show 0 ≤ (5 : Int) + (n / 4 : Nat) ∧ (5 : Int) + (n / 4 : Nat) ≤ 255; omega, ok.ace, ok.fl, ok.win, hc, ok.urg⟩
theorem off_fit {h : Hd} {n : Nat} (hn : n ≤ 40) {c : Int} (ha : ¬ (7 < h.ace ∨ 63 < h.fl)) : fitF (offG h n c) := by
  refine ⟨?_, ?_, ?_, ?_⟩
  · show (5 : Int) ≤ 5 + (n / 4 : Nat); omega
  · show (5 : Int) + (n / 4 : Nat) ≤ 15; omega
  · show h.ace ≤ 7; omega
  · show h.fl ≤ 63; omega
theorem byt_flatO (w : Nat) : ∀ zs : List Int, bytS (zs.flatMap (fun z => putF z w))
  | [] => fun x hx => by simp at hx
  | z :: zs => by rw [List.flatMap_cons]; exact byt_app (put_byt w z) (byt_flatO w zs)
theorem byt_optO {o : Opt} (h : fineO o = true) (hl : lenO o ≤ 255) : bytS (bytO o) := by
  have hk := fine_kind h
  intro x hx
  rw [bytO] at hx
  rcases List.mem_cons.1 hx with rfl | hx
  · omega
  · rcases List.mem_cons.1 hx with rfl | hx
    · omega
    · rcases List.mem_append.1 hx with hx | hx
      · exact byt_flatO _ _ x hx
      · exact sb_byte _ x hx
theorem byt_allO : ∀ os : List Opt, (∀ o ∈ os, fineO o = true) → (allO os).length ≤ 255 → bytS (allO os)
  | [], _, _ => fun x hx => by simp [allO] at hx
  | o :: os, h, hl => by
    rw [allO_cons] at hl ⊢
    rw [List.length_append, bytO_len] at hl
    exact byt_app (byt_optO (h o (List.mem_cons_self ..)) (by omega)) (byt_allO os (fun x hx => h x (List.mem_cons_of_mem _ hx)) (by omega))
theorem bytP {os : List Opt} (h : chkO [] os 0 = 0) : bytS (padO (allO os)) := by
  obtain ⟨h1, h2⟩ := chk_ok os [] 0 h
  exact byt_app (byt_allO os h1 (by omega)) (fun x hx => by rw [List.eq_of_mem_replicate hx]; omega)
/-- What is encoded is verified. -/
theorem enc_full {x : Ad} (hx : x.ok) {h : Hd} (ok : HdOk h) {os : List Opt} {d : List Int} (hd : bytS d) {b : List Int} (he : encG x h os d = (b, 0)) :
    ∃ (n : Nat) (c : Int), (padO (allO os)).length = n ∧ n ≤ 40 ∧ n % 4 = 0 ∧ chkO [] os 0 = 0 ∧ d.length ≤ 65000 ∧ (0 ≤ c ∧ c ≤ 65535) ∧ fitF (offG h n c) ∧ b = segB (offG h n c) (padO (allO os)) d ∧ b.length = 20 + n + d.length ∧ bytS b ∧ ckS (pseG x b.length ++ b) = 0 := by
  unfold encG at he
  split at he
  · rename_i h1
    exact absurd (Prod.mk.inj he).2 h1
  · rename_i h1
    split at he
    · exact absurd (Prod.mk.inj he).2 (by decide)
    · rename_i h2
      split at he
      · exact absurd (Prod.mk.inj he).2 (by decide)
      · rename_i h3
        have hc : chkO [] os 0 = 0 := by simpa using h1
        obtain ⟨_, hall⟩ := chk_ok os [] 0 hc
        obtain ⟨n, hn⟩ : ∃ n, (padO (allO os)).length = n := ⟨_, rfl⟩
        have hn4 : n % 4 = 0 := by rw [← hn]; exact (padO_len _).1
        have hn40 : n ≤ 40 := by rw [← hn, padO, List.length_append, List.length_replicate]; omega
        rw [hn] at he
        obtain ⟨c, hcc⟩ : ∃ c, ckS (pseG x (20 + n + d.length) ++ segB (offG h n 0) (padO (allO os)) d) = c := ⟨_, rfl⟩
        rw [hcc] at he
        have hb0 : bytS (pseG x (20 + n + d.length) ++ segB (offG h n 0) (padO (allO os)) d) :=
          byt_app (pseG_byt hx _) (byt_app (hdF_byt (off_ok ok hn40 (by omega)) (off_fit hn40 h3)) (byt_app (bytP hc) hd))
        have hcb : 0 ≤ c ∧ c ≤ 65535 := by rw [← hcc]; exact sum_bd hb0
        have hb : b = segB (offG h n c) (padO (allO os)) d := (Prod.mk.inj he).1.symm
        have hbl : b.length = 20 + n + d.length := by rw [hb, segB_len, hn]
        refine ⟨n, c, hn, hn40, hn4, hc, by omega, hcb, off_fit hn40 h3, hb, hbl, ?_, ?_⟩
        · rw [hb]
          exact byt_app (hdF_byt (off_ok ok hn40 hcb) (off_fit hn40 h3)) (byt_app (bytP hc) hd)
        · rw [hbl, hb]
          exact seg_full (pseG_len x _) (offG h n 0) (padO (allO os) ++ d) hb0 hcc
/-- What is encoded is decoded as it was, but for Off and Sum. -/
theorem enc_dec {x : Ad} (hx : x.ok) {h : Hd} (ok : HdOk h) {os : List Opt} (hp : ∀ o ∈ os, posO o) {d : List Int} (hd : bytS d) {b : List Int} (he : encG x h os d = (b, 0)) :
    ∃ (n : Nat) (c : Int), decG x b = ((offG h n c, os, d), 0) ∧ b.length = 4 * (n / 4 + 5) + d.length ∧ (offG h n c).off = ((n / 4 + 5 : Nat) : Int) ∧ n ≤ 40 ∧ (0 ≤ c ∧ c ≤ 65535) := by
  obtain ⟨n, c, hn, hn40, hn4, hc, hd6, hcb, hfit, hb, hbl, hbb, hv⟩ := enc_full hx ok hd he
  have e12 : bF b 12 = (offG h n c).off * 16 + (offG h n c).ace / 4 := by rw [hb]; rfl
  have hoff : (offG h n c).off = 5 + (n / 4 : Nat) := rfl
  have hace : 0 ≤ (offG h n c).ace ∧ (offG h n c).ace ≤ 7 := ⟨ok.ace.1, hfit.2.2.1⟩
  have edv : bF b 12 / 16 = 5 + (n / 4 : Nat) := by rw [e12, hoff]; omega
  have eto : (4 * (bF b 12 / 16)).toNat = 20 + n := by rw [edv]; omega
  have eop : (b.drop 20).take (20 + n - 20) = padO (allO os) := by
    rw [hb, segB, hd_drop, List.take_append_of_le_length (by omega), List.take_of_length_le (by omega)]
  have eda : b.drop (20 + n) = d := by
    rw [← List.drop_drop, hb, segB, hd_drop, List.drop_append_of_le_length (by omega), List.drop_of_length_le (by omega), List.nil_append]
  have ebk := (back_one hp hc).1
  have edc : decF b = offG h n c := by rw [hb, segB]; exact back_dec (off_ok ok hn40 hcb) hfit _
  refine ⟨n, c, ?_, by omega, by rw [hoff]; omega, hn40, hcb⟩
  unfold decG
  rw [if_neg (by omega), if_neg (by rw [e12, hoff]; omega), if_neg (by rw [edv]; omega), if_neg (by omega), if_neg (by simp [hv]), eto, eop, eda, ebk, if_neg (by simp), edc]
/-- With one bit turned it is never decoded. -/
theorem enc_turned {x : Ad} (hx : x.ok) {h : Hd} (ok : HdOk h) {os : List Opt} {d : List Int} (hd : bytS d) {b : List Int} (he : encG x h os d = (b, 0)) {p j : Nat} (hp : p < b.length) (hj : j < 8) :
    (decG x (b.set p (flipG b[p] j))).2 ≠ 0 ∧ (decG x (b.set p (flipG b[p] j))).1 = (zeroH, [], []) := by
  obtain ⟨n, c, hn, hn40, hn4, hc, hd6, hcb, hfit, hb, hbl, hbb, hv⟩ := enc_full hx ok hd he
  have ht := turned_app (byt_app (pseG_byt hx b.length) hbb) hv hp hj
  generalize hy : b.set p (flipG b[p] j) = y at *
  have hyl : y.length = b.length := by rw [← hy, List.length_set]
  unfold decG
  rw [hyl]
  split
  · exact ⟨by decide, rfl⟩
  · split
    · exact ⟨by decide, rfl⟩
    · split
      · exact ⟨by decide, rfl⟩
      · split
        · exact ⟨by decide, rfl⟩
        · exact ⟨by decide, rfl⟩
end Go.Proofs.Ytnkcnfkonifmhaa
