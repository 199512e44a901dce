/- The least of what came within a time: plain facts, no function of the program. -/
import Derived.Test.YtphhcplellpikaaSatE
namespace Go.Proofs.Ytphhcplellpikaa
set_option linter.unusedVariables false

/-- A number that came, and when. -/
structure Lc where
  a : Int
  x : Int
instance : Inhabited Lc := ⟨⟨0, 0⟩⟩
/-- The time that counts. -/
def nrL (t : Int) : Int := min (max t (-1152921504606846976)) 1152921504606846976
theorem nrL_bd (t : Int) : -1152921504606846976 ≤ nrL t ∧ nrL t ≤ 1152921504606846976 := by unfold nrL; omega
theorem nrL_clamp (t : Int) : clampI t (-1152921504606846976) 1152921504606846976 = nrL t := by
  unfold clampI nrL; split <;> (try split) <;> omega
/-- The window that counts. -/
def wnL (t : Int) : Int := min (max t 0) 1125899906842624
theorem wnL_bd (t : Int) : 0 ≤ wnL t ∧ wnL t ≤ 1125899906842624 := by unfold wnL; omega
theorem wnL_clamp (t : Int) : clampI t 0 1125899906842624 = wnL t := by
  unfold clampI wnL; split <;> (try split) <;> omega

/-- Numbers within bounds; times do not fall. -/
def BdL (l : List Lc) : Prop := ∀ c ∈ l, (-1152921504606846976 ≤ c.a ∧ c.a ≤ 1152921504606846976) ∧ -9223372036854775808 ≤ c.x ∧ c.x ≤ 9223372036854775807
def TmL (l : List Lc) : Prop := l.Pairwise (fun c d => c.a ≤ d.a)
/-- Those that are less than all that came later. -/
def kpL : List Lc → List Lc
  | [] => []
  | c :: l => if ∀ d ∈ l, c.x < d.x then c :: kpL l else kpL l
theorem kpL_sub : ∀ l, ∀ c ∈ kpL l, c ∈ l
  | [], c, h => h
  | d :: l, c, h => by
    unfold kpL at h
    split at h
    · rcases List.mem_cons.1 h with rfl | h
      · exact List.mem_cons_self
      · exact List.mem_cons_of_mem _ (kpL_sub l c h)
    · exact List.mem_cons_of_mem _ (kpL_sub l c h)
theorem kpL_snoc (c : Lc) : ∀ l, kpL (l ++ [c]) = (kpL l).filter (fun d => decide (d.x < c.x)) ++ [c]
  | [] => by simp [kpL]
  | d :: l => by
    have ih := kpL_snoc c l
    simp only [List.cons_append, kpL]
    by_cases h1 : ∀ e ∈ l, d.x < e.x
    · by_cases h2 : d.x < c.x
      · have h : ∀ e ∈ l ++ [c], d.x < e.x := by
          intro e he
          rcases List.mem_append.1 he with he | he
          · exact h1 e he
          · obtain rfl : e = c := by simpa using he
            exact h2
        rw [if_pos h, if_pos h1, ih]
        simp [h2]
      · have h : ¬ ∀ e ∈ l ++ [c], d.x < e.x := fun h => h2 (h c (by simp))
        rw [if_neg h, if_pos h1, ih]
        simp [h2]
    · have h : ¬ ∀ e ∈ l ++ [c], d.x < e.x := fun h => h1 (fun e he => h e (by simp [he]))
      rw [if_neg h, if_neg h1, ih]
theorem kpL_rise : ∀ l, (kpL l).Pairwise (fun c d => c.x < d.x)
  | [] => by simp [kpL]
  | d :: l => by
    unfold kpL
    split
    · rename_i h
      exact List.pairwise_cons.2 ⟨fun e he => h e (kpL_sub l e he), kpL_rise l⟩
    · exact kpL_rise l
theorem kpL_time : ∀ l, TmL l → TmL (kpL l)
  | [], h => by simp [kpL, TmL]
  | d :: l, h => by
    obtain ⟨h1, h2⟩ := List.pairwise_cons.1 h
    unfold kpL
    split
    · exact List.pairwise_cons.2 ⟨fun e he => h1 e (kpL_sub l e he), kpL_time l h2⟩
    · exact kpL_time l h2
theorem kpL_len : ∀ l, (kpL l).length ≤ l.length
  | [] => Nat.le_refl _
  | d :: l => by
    have := kpL_len l
    unfold kpL
    split <;> simp <;> omega
theorem kpL_last : ∀ l, (kpL l).getLast? = l.getLast?
  | [] => rfl
  | d :: l => by
    rcases List.eq_nil_or_concat (d :: l) with h | ⟨l', c, h⟩
    · cases h
    · rw [h, List.concat_eq_append, kpL_snoc]; simp
/-- For each one there is one that is kept, not above it, and not ahead of it. -/
theorem kpL_for : ∀ l, TmL l → ∀ c ∈ l, ∃ d ∈ kpL l, d.x ≤ c.x ∧ c.a ≤ d.a
  | [], _, c, h => by cases h
  | e :: l, ht, c, h => by
    obtain ⟨h1, h2⟩ := List.pairwise_cons.1 ht
    rcases List.mem_cons.1 h with rfl | h
    · by_cases hk : ∀ d ∈ l, c.x < d.x
      · refine ⟨c, ?_, Int.le_refl _, Int.le_refl _⟩
        unfold kpL; rw [if_pos hk]; exact List.mem_cons_self
      · have : ∃ d ∈ l, d.x ≤ c.x := by
          apply Classical.byContradiction
          intro hn
          exact hk fun d hd => Classical.byContradiction fun hc => hn ⟨d, hd, by omega⟩
        obtain ⟨d, hd, hx⟩ := this
        obtain ⟨f, hf, f1, f2⟩ := kpL_for l h2 d hd
        refine ⟨f, ?_, by omega, by have := h1 d hd; omega⟩
        unfold kpL; rw [if_neg hk]; exact hf
    · obtain ⟨f, hf, f1, f2⟩ := kpL_for l h2 c h
      refine ⟨f, ?_, f1, f2⟩
      unfold kpL; split
      · exact List.mem_cons_of_mem _ hf
      · exact hf

def nthC (l : List Lc) (i : Nat) : Lc := l[i]?.getD default
theorem nthC_eq {l : List Lc} {i : Nat} (h : i < l.length) : nthC l i = l[i] := by simp [nthC, List.getElem?_eq_getElem h]
theorem nthC_mem {l : List Lc} {i : Nat} (h : i < l.length) : nthC l i ∈ l := by rw [nthC_eq h]; exact List.getElem_mem h
theorem nthC_last {l : List Lc} {k : Nat} (h : l.length = k + 1) : l.getLast? = some (nthC l k) := by
  rw [nthC_eq (by omega), List.getLast?_eq_getElem?, List.getElem?_eq_getElem (by omega)]
  congr 2; omega
theorem nthC_rise {l : List Lc} (h : l.Pairwise (fun c d => c.x < d.x)) {i j : Nat} (hij : i < j) (hj : j < l.length) : (nthC l i).x < (nthC l j).x := by
  rw [nthC_eq hj, nthC_eq (by omega)]; exact List.pairwise_iff_getElem.1 h i j _ _ hij
theorem nthC_time {l : List Lc} (h : TmL l) {i j : Nat} (hij : i ≤ j) (hj : j < l.length) : (nthC l i).a ≤ (nthC l j).a := by
  rcases Nat.lt_or_ge i j with hlt | hge
  · rw [nthC_eq hj, nthC_eq (by omega)]; exact List.pairwise_iff_getElem.1 h i j _ _ hlt
  · obtain rfl : i = j := by omega
    exact Int.le_refl _
theorem mem_nthC {l : List Lc} {c : Lc} (h : c ∈ l) : ∃ i, i < l.length ∧ nthC l i = c := by
  obtain ⟨i, hi, e⟩ := List.getElem_of_mem h
  exact ⟨i, hi, by rw [nthC_eq hi, e]⟩

/-- The time that counts for what comes now. -/
def atL (l : List Lc) (t : Int) : Int := match l.getLast? with
  | none => nrL t
  | some c => max (nrL t) c.a
theorem atL_nil (t : Int) : atL [] t = nrL t := rfl
theorem atL_some {l : List Lc} {k : Nat} (h : l.length = k + 1) (t : Int) : atL l t = max (nrL t) (nthC l k).a := by
  unfold atL; rw [nthC_last h]
def ptL (l : List Lc) (t x : Int) : List Lc := l ++ [⟨atL l t, x⟩]
theorem atL_kp (l : List Lc) (t : Int) : atL (kpL l) t = atL l t := by unfold atL; rw [kpL_last]
theorem atL_bd {l : List Lc} (h : BdL l) (t : Int) : -1152921504606846976 ≤ atL l t ∧ atL l t ≤ 1152921504606846976 := by
  have := nrL_bd t
  unfold atL
  split
  · exact this
  · rename_i c hc
    have := (h c (List.mem_of_getLast? hc)).1
    omega
theorem ptL_bd {l : List Lc} (h : BdL l) (t x : Int) (hx : -9223372036854775808 ≤ x ∧ x ≤ 9223372036854775807) : BdL (ptL l t x) := by
  intro c hc
  rcases List.mem_append.1 hc with hc | hc
  · exact h c hc
  · obtain rfl : c = ⟨atL l t, x⟩ := by simpa using hc
    exact ⟨atL_bd h t, hx⟩
theorem atL_ge {l : List Lc} (h : TmL l) (t : Int) : ∀ c ∈ l, c.a ≤ atL l t := by
  intro c hc
  rcases hl : l.length with _ | k
  · rw [List.length_eq_zero_iff.1 hl] at hc; cases hc
  · rw [atL_some hl]
    obtain ⟨i, hi, rfl⟩ := mem_nthC hc
    have := nthC_time h (show i ≤ k by omega) (by omega)
    omega
theorem ptL_time {l : List Lc} (h : TmL l) (t x : Int) : TmL (ptL l t x) := by
  unfold TmL ptL
  rw [List.pairwise_append]
  refine ⟨h, by simp, fun c hc d hd => ?_⟩
  obtain rfl : d = ⟨atL l t, x⟩ := by simpa using hd
  exact atL_ge h t c hc
theorem ptL_len (l : List Lc) (t x : Int) : (ptL l t x).length = l.length + 1 := by simp [ptL]
theorem kpL_put (l : List Lc) (t x : Int) : kpL (ptL l t x) = (kpL l).filter (fun d => decide (d.x < x)) ++ [⟨atL (kpL l) t, x⟩] := by
  rw [atL_kp]; exact kpL_snoc _ l
/-- Cut off behind: the first ones that are less. -/
theorem cut_is {l : List Lc} (h : l.Pairwise (fun c d => c.x < d.x)) {x : Int} {k : Nat} (hk : k ≤ l.length) (h1 : ∀ j, k ≤ j → j < l.length → x ≤ (nthC l j).x) (h2 : ∀ i, k = i + 1 → (nthC l i).x < x) : l.take k = l.filter (fun d => decide (d.x < x)) := by
  have e : l = l.take k ++ l.drop k := (List.take_append_drop k l).symm
  have hd : (l.drop k).filter (fun d => decide (d.x < x)) = [] := by
    rw [List.filter_eq_nil_iff]
    intro c hc
    obtain ⟨i, hi, rfl⟩ := List.getElem_of_mem hc
    rw [List.length_drop] at hi
    have := h1 (k + i) (by omega) (by omega)
    rw [nthC_eq (by omega)] at this
    simp only [List.getElem_drop, decide_eq_true_eq]
    omega
  have ht : (l.take k).filter (fun d => decide (d.x < x)) = l.take k := by
    rw [List.filter_eq_self]
    intro c hc
    obtain ⟨i, hi, rfl⟩ := List.getElem_of_mem hc
    rw [List.length_take] at hi
    simp only [List.getElem_take, decide_eq_true_eq]
    cases k with
    | zero => omega
    | succ k =>
      have h3 := h2 k rfl
      rcases Nat.lt_or_ge i k with hlt | hge
      · have := nthC_rise h hlt (by omega)
        rw [nthC_eq (i := i) (by omega)] at this
        omega
      · obtain rfl : i = k := by omega
        rwa [nthC_eq (by omega)] at h3
  conv => rhs; rw [e]
  rw [List.filter_append, hd, ht, List.append_nil]

/-- The least one, by going through. -/
def bsL : List Lc → Int → Int → Int
  | [], _, b => b
  | c :: l, f, b => bsL l f (if f < c.a ∧ c.x < b then c.x else b)
theorem bsL_snoc (c : Lc) : ∀ l f b, bsL (l ++ [c]) f b = if f < c.a ∧ c.x < bsL l f b then c.x else bsL l f b
  | [], f, b => rfl
  | d :: l, f, b => by rw [List.cons_append, bsL, bsL_snoc c l, bsL]
theorem bsL_le : ∀ l f b, bsL l f b ≤ b
  | [], f, b => Int.le_refl _
  | c :: l, f, b => by
    rw [bsL]
    by_cases h : f < c.a ∧ c.x < b
    · rw [if_pos h]; have := bsL_le l f c.x; omega
    · rw [if_neg h]; exact bsL_le l f b
theorem bsL_in : ∀ l f b, ∀ c ∈ l, f < c.a → bsL l f b ≤ c.x
  | [], f, b, c, h, _ => by cases h
  | d :: l, f, b, c, h, hf => by
    rw [bsL]
    rcases List.mem_cons.1 h with rfl | h
    · by_cases h : f < c.a ∧ c.x < b
      · rw [if_pos h]; exact bsL_le l f c.x
      · rw [if_neg h]; have := bsL_le l f b; omega
    · exact bsL_in l f _ c h hf
theorem bsL_ex : ∀ l f b, bsL l f b = b ∨ ∃ c ∈ l, f < c.a ∧ c.x = bsL l f b
  | [], f, b => .inl rfl
  | d :: l, f, b => by
    rw [bsL]
    rcases bsL_ex l f (if f < d.a ∧ d.x < b then d.x else b) with h | ⟨c, hc, h⟩
    · by_cases hd : f < d.a ∧ d.x < b
      · rw [if_pos hd] at h ⊢
        exact .inr ⟨d, List.mem_cons_self, hd.1, h.symm⟩
      · rw [if_neg hd] at h ⊢
        exact .inl h
    · exact .inr ⟨c, List.mem_cons_of_mem _ hc, h⟩
def lsL (l : List Lc) (f : Int) : Int := match l.getLast? with
  | none => 0
  | some c => bsL l f c.x
theorem lsL_some {l : List Lc} {k : Nat} (h : l.length = k + 1) (f : Int) : lsL l f = bsL l f (nthC l k).x := by
  unfold lsL; rw [nthC_last h]
theorem lsL_last {l : List Lc} {k : Nat} (h : l.length = k + 1) (f : Int) : lsL l f ≤ (nthC l k).x := by rw [lsL_some h]; exact bsL_le _ _ _
/-- A later time: not less. -/
theorem lsL_mono (l : List Lc) {f g : Int} (h : f ≤ g) : lsL l f ≤ lsL l g := by
  rcases hl : l.length with _ | k
  · rw [List.length_eq_zero_iff.1 hl]; exact Int.le_refl _
  · rw [lsL_some hl, lsL_some hl]
    rcases bsL_ex l g (nthC l k).x with e | ⟨c, hc, h1, h2⟩
    · rw [e]; exact bsL_le _ _ _
    · rw [← h2]; exact bsL_in l f _ c hc (by omega)
/-- The first one that is kept and came late enough, or the last one, is the least. -/
theorem lsL_kept {l : List Lc} (ht : TmL l) {f : Int} {m n : Nat} (hn : (kpL l).length = n + 1) (hm : m ≤ n) (h1 : ∀ i, i < m → (nthC (kpL l) i).a ≤ f) (h2 : m = n ∨ f < (nthC (kpL l) m).a) : (nthC (kpL l) m).x = lsL l f := by
  rcases hl : l.length with _ | k
  · rw [List.length_eq_zero_iff.1 hl] at hn; simp [kpL] at hn
  have hlast : nthC (kpL l) n = nthC l k := by
    have e1 := nthC_last hn
    have e2 := nthC_last hl
    rw [kpL_last, e2] at e1
    exact (Option.some.inj e1).symm
  have hr := kpL_rise l
  have hmle : ∀ i, m ≤ i → i ≤ n → (nthC (kpL l) m).x ≤ (nthC (kpL l) i).x := by
    intro i hi hin
    rcases Nat.lt_or_ge m i with hlt | hge
    · have := nthC_rise hr hlt (by omega); omega
    · obtain rfl : m = i := by omega
      exact Int.le_refl _
  rw [lsL_some hl]
  have hle : (nthC (kpL l) m).x ≤ bsL l f (nthC l k).x := by
    rcases bsL_ex l f (nthC l k).x with e | ⟨c, hc, h3, h4⟩
    · rw [e, ← hlast]; exact hmle n hm (Nat.le_refl _)
    · rw [← h4]
      obtain ⟨d, hd, d1, d2⟩ := kpL_for l ht c hc
      obtain ⟨i, hi, rfl⟩ := mem_nthC hd
      have : m ≤ i := by
        apply Classical.byContradiction
        intro hlt
        have := h1 i (by omega)
        omega
      have := hmle i this (by omega)
      omega
  have hge : bsL l f (nthC l k).x ≤ (nthC (kpL l) m).x := by
    rcases h2 with rfl | h2
    · rw [hlast]; exact bsL_le _ _ _
    · exact bsL_in l f _ _ (kpL_sub l _ (nthC_mem (by omega))) h2
  omega
theorem kpL_pos {l : List Lc} {k : Nat} (h : l.length = k + 1) : ∃ n, (kpL l).length = n + 1 ∧ n ≤ k := by
  rcases hn : (kpL l).length with _ | n
  · have := kpL_last l
    rw [List.length_eq_zero_iff.1 hn, nthC_last h] at this
    cases this
  · have := kpL_len l
    exact ⟨n, rfl, by omega⟩
/-- How many are kept, counted from the front. -/
theorem kpL_step {l : List Lc} {i : Nat} (hi : i < l.length) (b : Bool) (hb : b = true ↔ ∀ j, i < j → j < l.length → (nthC l i).x < (nthC l j).x) : (kpL (l.drop i)).length = (if b = true then 1 else 0) + (kpL (l.drop (i + 1))).length := by
  rw [List.drop_eq_getElem_cons hi, kpL]
  have e : (∀ d ∈ l.drop (i + 1), l[i].x < d.x) ↔ b = true := by
    rw [hb]
    constructor
    · intro h j h1 h2
      rw [nthC_eq h2, nthC_eq hi]
      have hj : j - (i + 1) < (l.drop (i + 1)).length := by rw [List.length_drop]; omega
      have := h (l.drop (i + 1))[j - (i + 1)] (List.getElem_mem hj)
      rw [List.getElem_drop] at this
      have e : i + 1 + (j - (i + 1)) = j := by omega
      simp only [e] at this
      exact this
    · intro h d hd
      obtain ⟨j, hj, rfl⟩ := List.getElem_of_mem hd
      rw [List.length_drop] at hj
      have := h (i + 1 + j) (by omega) (by omega)
      rw [nthC_eq hi, nthC_eq (by omega)] at this
      rw [List.getElem_drop]
      exact this
  by_cases h : ∀ d ∈ l.drop (i + 1), l[i].x < d.x
  · rw [if_pos h, if_pos (e.1 h), List.length_cons]; omega
  · rw [if_neg h, if_neg (fun hb => h (e.2 hb))]; omega
end Go.Proofs.Ytphhcplellpikaa
