/- Plain facts of binary heaps: what waits, in which order it comes, rising and sinking; lists in that order. -/
import Derived.Test.YtmdlbjeiokadaaaBase
namespace Go.Proofs.Ytmdlbjeiokadaaa
set_option linter.unusedVariables false

/-- An event that waits, with its turn. -/
structure Wt where
  a : Int
  k : Int
  f : Int
  n : Int
  t : Int
/-- An event. -/
structure Ev where
  a : Int
  k : Int
  f : Int
  n : Int
instance : Inhabited Wt := ⟨⟨0, 0, 0, 0, 0⟩⟩
instance : Inhabited Ev := ⟨⟨0, 0, 0, 0⟩⟩
def Wt.ev (x : Wt) : Ev := ⟨x.a, x.k, x.f, x.n⟩
def Ev.wt (x : Ev) (t : Int) : Wt := ⟨x.a, x.k, x.f, x.n, t⟩
theorem Ev.wt_ev (x : Ev) (t : Int) : (x.wt t).ev = x := rfl

def Wt.lt (x y : Wt) : Prop := x.a < y.a ∨ (x.a = y.a ∧ x.t < y.t)
def Wt.le (x y : Wt) : Prop := x.a < y.a ∨ (x.a = y.a ∧ x.t ≤ y.t)
instance (x y : Wt) : Decidable (x.lt y) := by unfold Wt.lt; infer_instance
theorem Wt.le_refl (x : Wt) : x.le x := by unfold Wt.le; omega
theorem Wt.le_of_lt {x y : Wt} (h : x.lt y) : x.le y := by unfold Wt.le; unfold Wt.lt at h; omega
theorem Wt.le_of_not {x y : Wt} (h : ¬ x.lt y) : y.le x := by unfold Wt.le; unfold Wt.lt at h; omega
theorem Wt.not_of_le {x y : Wt} (h : y.le x) : ¬ x.lt y := by unfold Wt.le at h; unfold Wt.lt; omega
theorem Wt.le_trans {x y z : Wt} (h : x.le y) (k : y.le z) : x.le z := by unfold Wt.le at *; omega
theorem Wt.lt_of_lt_le {x y z : Wt} (h : x.lt y) (k : y.le z) : x.lt z := by unfold Wt.le at *; unfold Wt.lt at *; omega
theorem Wt.lt_trans {x y z : Wt} (h : x.lt y) (k : y.lt z) : x.lt z := by unfold Wt.lt at *; omega

def nth (zs : List Wt) (i : Nat) : Wt := zs[i]?.getD default
theorem nth_eq {zs : List Wt} {i : Nat} (h : i < zs.length) : nth zs i = zs[i] := by simp [nth, List.getElem?_eq_getElem h]
theorem nth_mem {zs : List Wt} {i : Nat} (h : i < zs.length) : nth zs i ∈ zs := by rw [nth_eq h]; exact List.getElem_mem _
theorem nth_of_mem {zs : List Wt} {x : Wt} (h : x ∈ zs) : ∃ i, i < zs.length ∧ nth zs i = x := by
  obtain ⟨i, hi, h⟩ := List.getElem_of_mem h
  exact ⟨i, hi, by rw [nth_eq hi, h]⟩
theorem nth_set_same {zs : List Wt} {i : Nat} {x : Wt} (h : i < zs.length) : nth (zs.set i x) i = x := by simp [nth, h]
theorem nth_set_ne {zs : List Wt} {i j : Nat} {x : Wt} (h : i ≠ j) : nth (zs.set i x) j = nth zs j := by simp [nth, List.getElem?_set_ne h]
/-- Two change places. -/
def swq (zs : List Wt) (i j : Nat) : List Wt := (zs.set i (nth zs j)).set j (nth zs i)
theorem swq_len (zs : List Wt) (i j : Nat) : (swq zs i j).length = zs.length := by simp [swq]
theorem swq_perm {zs : List Wt} {i j : Nat} (hi : i < zs.length) (hj : j < zs.length) : (swq zs i j).Perm zs := by
  unfold swq
  rw [nth_eq hi, nth_eq hj]
  exact List.set_set_perm hi hj
theorem swq_snd {zs : List Wt} {i j : Nat} (hj : j < zs.length) : nth (swq zs i j) j = nth zs i := nth_set_same (by simpa using hj)
theorem swq_fst {zs : List Wt} {i j : Nat} (hi : i < zs.length) : nth (swq zs i j) i = nth zs j := by
  unfold swq
  by_cases h : j = i
  · subst h; exact nth_set_same (by simpa using hi)
  · rw [nth_set_ne h]; exact nth_set_same hi
theorem swq_ne {zs : List Wt} {i j m : Nat} (hi : i ≠ m) (hj : j ≠ m) : nth (swq zs i j) m = nth zs m := by
  unfold swq; rw [nth_set_ne hj, nth_set_ne hi]

def par (i : Nat) : Nat := (i - 1) / 2
theorem par_lt {i : Nat} (h : 0 < i) : par i < i := by unfold par; omega
def HeapAt (zs : List Wt) : Prop := ∀ j, 0 < j → j < zs.length → (nth zs (par j)).le (nth zs j)
/-- A heap, but for the one at i, that may come ahead of those above it. -/
def RiseAt (zs : List Wt) (i : Nat) : Prop :=
  (∀ j, 0 < j → j < zs.length → j ≠ i → (nth zs (par j)).le (nth zs j)) ∧
  (∀ j, 0 < j → j < zs.length → par j = i → 0 < i → (nth zs (par i)).le (nth zs j))
theorem rise_push {zs : List Wt} (h : HeapAt zs) (x : Wt) : RiseAt (zs ++ [x]) zs.length := by
  refine ⟨fun j h0 hj hne => ?_, fun j h0 hj hp _ => ?_⟩
  · simp at hj
    have hp := par_lt h0
    have e : ∀ m, m < zs.length → nth (zs ++ [x]) m = nth zs m := fun m hm => by simp [nth, List.getElem?_append_left hm]
    rw [e j (by omega), e (par j) (by omega)]
    exact h j h0 (by omega)
  · simp at hj; have := par_lt h0; omega
theorem rise_next {zs : List Wt} {i : Nat} (h : RiseAt zs i) (h0 : 0 < i) (hi : i < zs.length) (hlt : (nth zs i).lt (nth zs (par i))) : RiseAt (swq zs i (par i)) (par i) := by
  have hp := par_lt h0
  have e1 : nth (swq zs i (par i)) i = nth zs (par i) := swq_fst hi
  have e2 : nth (swq zs i (par i)) (par i) = nth zs i := swq_snd (by omega)
  have e3 : ∀ m, m ≠ i → m ≠ par i → nth (swq zs i (par i)) m = nth zs m := fun m h1 h2 => swq_ne (fun e => h1 e.symm) (fun e => h2 e.symm)
  obtain ⟨hr, hk⟩ := h
  refine ⟨fun j j0 hj hne => ?_, fun j j0 hj hjp hpp => ?_⟩
  · rw [swq_len] at hj
    have hpj := par_lt j0
    by_cases c1 : j = i
    · subst c1; rw [e1, e2]; exact Wt.le_of_lt hlt
    · rw [e3 j c1 hne]
      by_cases c2 : par j = i
      · rw [c2, e1]; exact hk j j0 hj c2 h0
      · by_cases c3 : par j = par i
        · rw [c3, e2]
          have := hr j j0 hj c1
          rw [c3] at this
          exact Wt.le_trans (Wt.le_of_lt hlt) this
        · rw [e3 _ c2 c3]; exact hr j j0 hj c1
  · rw [swq_len] at hj
    have hpp' := par_lt hpp
    rw [e3 (par (par i)) (by omega) (by omega)]
    have hup := hr (par i) hpp (by omega) (by omega)
    by_cases c1 : j = i
    · subst c1; rw [e1]; exact hup
    · have := par_lt j0
      rw [e3 j c1 (by omega)]
      have h2 := hr j j0 hj c1
      rw [hjp] at h2
      exact Wt.le_trans hup h2
theorem rise_end {zs : List Wt} {i : Nat} (h : RiseAt zs i) (he : i = 0 ∨ ¬ (nth zs i).lt (nth zs (par i))) : HeapAt zs := by
  intro j j0 hj
  by_cases c : j = i
  · subst c
    rcases he with rfl | he
    · omega
    · exact Wt.le_of_not he
  · exact h.1 j j0 hj c

/-- From i on down it is a heap, but for the one at c, that may come behind those below it. -/
def SinkAt (zs : List Wt) (i c : Nat) : Prop :=
  (∀ j, 0 < j → j < zs.length → i ≤ par j → par j ≠ c → (nth zs (par j)).le (nth zs j)) ∧
  (∀ j, 0 < j → j < zs.length → par j = c → i < c → (nth zs (par c)).le (nth zs j)) ∧ i ≤ c
def SunkAt (zs : List Wt) (i : Nat) : Prop := ∀ j, 0 < j → j < zs.length → i ≤ par j → (nth zs (par j)).le (nth zs j)
theorem sink_start {zs : List Wt} {i : Nat} (h : SunkAt zs (i + 1)) : SinkAt zs i i :=
  ⟨fun j j0 hj h1 h2 => h j j0 hj (by omega), fun _ _ _ _ h => absurd h (Nat.lt_irrefl _), Nat.le_refl _⟩
theorem sunk_heap {zs : List Wt} (h : SunkAt zs 0) : HeapAt zs := fun j j0 hj => h j j0 hj (Nat.zero_le _)
theorem sunk_half {zs : List Wt} {i : Nat} (h : zs.length ≤ 2 * i + 1) : SunkAt zs i := fun j j0 hj hp => by unfold par at hp; omega
/-- Of the one at c and the first m below it the one at f comes first. -/
def FirstAt (zs : List Wt) (c m f : Nat) : Prop :=
  (f = c ∨ (2 * c + 1 ≤ f ∧ f < 2 * c + 1 + m ∧ f < zs.length ∧ (nth zs f).lt (nth zs c))) ∧ ∀ j, 2 * c + 1 ≤ j → j < 2 * c + 1 + m → j < zs.length → (nth zs f).le (nth zs j)
theorem first_start (zs : List Wt) (c : Nat) : FirstAt zs c 0 c := ⟨.inl rfl, fun j h1 h2 => by omega⟩
theorem first_yes {zs : List Wt} {c m f : Nat} (h : FirstAt zs c m f) (hb : 2 * c + 1 + m < zs.length) (hlt : (nth zs (2 * c + 1 + m)).lt (nth zs f)) : FirstAt zs c (m + 1) (2 * c + 1 + m) := by
  obtain ⟨h1, h2⟩ := h
  refine ⟨.inr ⟨by omega, by omega, hb, ?_⟩, fun j j1 j2 j3 => ?_⟩
  · rcases h1 with rfl | ⟨_, _, _, h1⟩
    · exact hlt
    · exact Wt.lt_trans hlt h1
  · by_cases e : j = 2 * c + 1 + m
    · subst e; exact Wt.le_refl _
    · exact Wt.le_trans (Wt.le_of_lt hlt) (h2 j j1 (by omega) j3)
theorem first_no {zs : List Wt} {c m f : Nat} (h : FirstAt zs c m f) (hlt : ¬ (nth zs (2 * c + 1 + m)).lt (nth zs f)) : FirstAt zs c (m + 1) f := by
  obtain ⟨h1, h2⟩ := h
  refine ⟨?_, fun j j1 j2 j3 => ?_⟩
  · rcases h1 with h1 | ⟨a, b, c, d⟩
    · exact .inl h1
    · exact .inr ⟨a, by omega, c, d⟩
  · by_cases e : j = 2 * c + 1 + m
    · subst e; exact Wt.le_of_not hlt
    · exact h2 j j1 (by omega) j3
theorem first_lt {zs : List Wt} {c m f : Nat} (h : FirstAt zs c m f) (hc : c < zs.length) : f < zs.length := by
  rcases h.1 with rfl | ⟨_, _, h, _⟩ <;> assumption
theorem sink_end {zs : List Wt} {i c m : Nat} (h : SinkAt zs i c) (hf : FirstAt zs c m c) (hm : m = 2 ∨ zs.length ≤ 2 * c + 1 + m) : SunkAt zs i := by
  intro j j0 hj hp
  by_cases e : par j = c
  · rw [e]
    exact hf.2 j (by unfold par at e; omega) (by unfold par at e; omega) hj
  · exact h.1 j j0 hj hp e
theorem sink_next {zs : List Wt} {i c m f : Nat} (h : SinkAt zs i c) (hf : FirstAt zs c m f) (hm : m = 2 ∨ (zs.length ≤ 2 * c + 1 + m ∧ m ≤ 2)) (hne : f ≠ c) (hc : c < zs.length) : SinkAt (swq zs c f) i f ∧ c < f ∧ f < zs.length := by
  obtain ⟨h1, h2⟩ := hf
  rcases h1 with h1 | ⟨f1, f2, f3, f4⟩
  · exact absurd h1 hne
  obtain ⟨hr, hk, hl⟩ := h
  have hpf : par f = c := by unfold par; omega
  have e1 : nth (swq zs c f) c = nth zs f := swq_fst hc
  have e2 : nth (swq zs c f) f = nth zs c := swq_snd f3
  have e3 : ∀ m, m ≠ c → m ≠ f → nth (swq zs c f) m = nth zs m := fun m h1 h2 => swq_ne (fun e => h1 e.symm) (fun e => h2 e.symm)
  refine ⟨⟨fun j j0 hj hp hn => ?_, fun j j0 hj hp hi => ?_, by omega⟩, by omega, f3⟩
  · rw [swq_len] at hj
    have hpj := par_lt j0
    by_cases c1 : par j = c
    · rw [c1, e1]
      by_cases c2 : j = f
      · subst c2; rw [e2]; exact Wt.le_of_lt f4
      · rw [e3 j (by omega) c2]
        exact h2 j (by unfold par at c1; omega) (by unfold par at c1; omega) hj
    · rw [e3 (par j) c1 hn]
      by_cases c2 : j = c
      · subst c2; rw [e1]
        exact hk f (by omega) f3 hpf (by omega)
      · rw [e3 j c2 (by rintro rfl; exact c1 hpf)]
        exact hr j j0 hj hp c1
  · rw [swq_len] at hj
    have hpj := par_lt j0
    rw [hpf, e1, e3 j (by omega) (by omega)]
    have := hr j j0 hj (by omega) (by omega)
    rwa [hp] at this

theorem heap_least {zs : List Wt} (h : HeapAt zs) : ∀ j, j < zs.length → (nth zs 0).le (nth zs j) := by
  intro j
  induction j using Nat.strongRecOn with
  | _ j ih =>
    intro hj
    by_cases c : j = 0
    · subst c; exact Wt.le_refl _
    · have hp := par_lt (i := j) (by omega)
      exact Wt.le_trans (ih (par j) hp (by omega)) (h j (by omega) hj)

/-- Lists in the order in which events come. -/
abbrev Asc (L : List Wt) : Prop := L.Pairwise Wt.lt
theorem heap_first {zs L : List Wt} {x : Wt} (h : HeapAt zs) (hp : zs.Perm (x :: L)) (hL : Asc (x :: L)) : nth zs 0 = x := by
  have hl : 0 < zs.length := by rw [hp.length_eq]; simp
  obtain ⟨j, hj, e⟩ := nth_of_mem (hp.mem_iff.2 (List.mem_cons_self))
  have h1 := heap_least h j hj
  rw [e] at h1
  rcases List.mem_cons.1 (hp.mem_iff.1 (nth_mem hl)) with h2 | h2
  · exact h2
  · have := (List.pairwise_cons.1 hL).1 _ h2
    exact absurd this (Wt.not_of_le h1)

theorem pop_split {zs : List Wt} {n : Nat} (hn : zs.length = n + 1) : swq zs 0 n = (swq zs 0 n).take n ++ [nth zs 0] := by
  have hl : (swq zs 0 n).length = n + 1 := by rw [swq_len, hn]
  have e : nth (swq zs 0 n) n = nth zs 0 := swq_snd (by omega)
  rw [nth_eq (by omega)] at e
  rw [← e]
  conv => lhs; rw [← List.take_append_drop n (swq zs 0 n)]
  rw [List.drop_eq_getElem_cons (by omega), List.drop_of_length_le (by omega)]
theorem pop_perm {zs L : List Wt} {x : Wt} {n : Nat} (h : HeapAt zs) (hp : zs.Perm (x :: L)) (hL : Asc (x :: L)) (hn : zs.length = n + 1) : ((swq zs 0 n).take n).Perm L := by
  have h1 : (swq zs 0 n).Perm (x :: L) := (swq_perm (by omega) (by omega)).trans hp
  rw [pop_split hn, heap_first h hp hL] at h1
  exact ((List.perm_append_singleton _ _).symm.trans h1).cons_inv
theorem nth_take {zs : List Wt} {n i : Nat} (h : i < n) : nth (zs.take n) i = nth zs i := by simp [nth, h]
theorem pop_sink {zs : List Wt} {n : Nat} (h : HeapAt zs) (hn : zs.length = n + 1) : SunkAt ((swq zs 0 n).take n) 1 := by
  intro j j0 hj hp
  rw [List.length_take, swq_len] at hj
  have hpj := par_lt j0
  rw [nth_take (by omega), nth_take (by omega), swq_ne (by omega) (by omega), swq_ne (by omega) (by omega)]
  exact h j j0 (by omega)

/-- How many stand ahead of one that comes at a, and is pushed now. -/
def cutl : List Int → Int → Nat
  | [], _ => 0
  | b :: bs, a => if b ≤ a then cutl bs a + 1 else 0
theorem cutl_le : ∀ (bs : List Int) (a : Int), cutl bs a ≤ bs.length
  | [], _ => Nat.le_refl _
  | b :: bs, a => by
    unfold cutl
    split
    · have := cutl_le bs a; simp; omega
    · simp
theorem cutl_ahead : ∀ (bs : List Int) (a : Int) (i : Nat), i < cutl bs a → bs[i]?.getD 0 ≤ a
  | [], _, _, h => by simp [cutl] at h
  | b :: bs, a, i, h => by
    unfold cutl at h
    split at h
    · cases i with
      | zero => simpa
      | succ i => simpa using cutl_ahead bs a i (by omega)
    · omega
theorem cutl_next : ∀ (bs : List Int) (a : Int), cutl bs a < bs.length → a < bs[cutl bs a]?.getD 0
  | [], _, h => by simp at h
  | b :: bs, a, h => by
    unfold cutl at h ⊢
    split
    · rename_i hb
      rw [if_pos hb] at h
      simpa using cutl_next bs a (by simpa using h)
    · simp; omega
/-- The index at which a walk along the list stops. -/
theorem cutl_is {bs : List Int} {a : Int} {i : Nat} (hi : i ≤ bs.length) (h1 : ∀ j, j < i → bs[j]?.getD 0 ≤ a) (h2 : i < bs.length → a < bs[i]?.getD 0) : cutl bs a = i := by
  rcases Nat.lt_trichotomy (cutl bs a) i with h | h | h
  · have := cutl_next bs a (by omega)
    have := h1 _ h
    omega
  · exact h
  · have := cutl_ahead bs a i h
    have := h2 (by have := cutl_le bs a; omega)
    omega
def ins (L : List Wt) (x : Wt) : List Wt := L.take (cutl (L.map Wt.a) x.a) ++ x :: L.drop (cutl (L.map Wt.a) x.a)
def insE (L : List Ev) (x : Ev) : List Ev := L.take (cutl (L.map Ev.a) x.a) ++ x :: L.drop (cutl (L.map Ev.a) x.a)
theorem ins_ev (L : List Wt) (x : Wt) : (ins L x).map Wt.ev = insE (L.map Wt.ev) x.ev := by
  unfold ins insE
  rw [List.map_map, show (Ev.a ∘ Wt.ev) = Wt.a from rfl, show x.ev.a = x.a from rfl]
  simp
theorem ins_len (L : List Wt) (x : Wt) : (ins L x).length = L.length + 1 := by
  unfold ins
  have := cutl_le (L.map Wt.a) x.a
  simp at this ⊢
  omega
theorem insE_len (L : List Ev) (x : Ev) : (insE L x).length = L.length + 1 := by
  unfold insE
  have := cutl_le (L.map Ev.a) x.a
  simp at this ⊢
  omega
theorem ins_perm (L : List Wt) (x : Wt) : (ins L x).Perm (x :: L) := by
  unfold ins
  refine List.perm_middle.trans ?_
  rw [List.take_append_drop]
theorem ins_asc {L : List Wt} {x : Wt} (h : Asc L) (ht : ∀ y ∈ L, y.t < x.t) : Asc (ins L x) := by
  have hh := h
  rw [← List.take_append_drop (cutl (L.map Wt.a) x.a) L, Asc, List.pairwise_append] at hh
  obtain ⟨h1, h2, h3⟩ := hh
  have hd : ∀ y ∈ L.drop (cutl (L.map Wt.a) x.a), x.lt y := by
    intro y hy
    have hlen : cutl (L.map Wt.a) x.a < L.length := by
      rcases Nat.lt_or_ge (cutl (L.map Wt.a) x.a) L.length with q | q
      · exact q
      · rw [List.drop_of_length_le q] at hy; cases hy
    have hn := cutl_next (L.map Wt.a) x.a (by simpa using hlen)
    rw [List.getElem?_map, List.getElem?_eq_getElem hlen] at hn
    simp at hn
    rw [List.drop_eq_getElem_cons hlen] at hy h2
    rcases List.mem_cons.1 hy with rfl | hy
    · exact .inl hn
    · have := (List.pairwise_cons.1 h2).1 y hy
      unfold Wt.lt at this ⊢
      omega
  have hu : ∀ y ∈ L.take (cutl (L.map Wt.a) x.a), y.lt x := by
    intro y hy
    have hm := List.mem_of_mem_take hy
    obtain ⟨i, hi, rfl⟩ := List.getElem_of_mem hy
    rw [List.length_take] at hi
    have := cutl_ahead (L.map Wt.a) x.a i (by omega)
    rw [List.getElem?_map, List.getElem?_eq_getElem (by omega)] at this
    simp at this
    have := ht _ hm
    simp only [List.getElem_take] at this ⊢
    unfold Wt.lt
    omega
  unfold ins
  rw [Asc, List.pairwise_append]
  refine ⟨h1, List.pairwise_cons.2 ⟨hd, h2⟩, fun y hy z hz => ?_⟩
  rcases List.mem_cons.1 hz with rfl | hz
  · exact hu y hy
  · exact h3 y hy z hz

/-- A list that does not fall, of what stands in one that rises, is that one. -/
theorem asc_is : ∀ {d L : List Wt}, d.Perm L → d.Pairwise Wt.le → Asc L → d = L
  | [], L, h, _, _ => by simpa using h
  | x :: d, [], h, _, _ => by simp at h
  | x :: d, y :: L, h, h1, h2 => by
    have e : x = y := by
      rcases List.mem_cons.1 (h.mem_iff.1 (List.mem_cons_self)) with e | e
      · exact e
      · rcases List.mem_cons.1 (h.mem_iff.2 (List.mem_cons_self)) with e2 | e2
        · exact e2.symm
        · exact absurd ((List.pairwise_cons.1 h2).1 x e) (Wt.not_of_le ((List.pairwise_cons.1 h1).1 y e2))
    subst e
    rw [asc_is h.cons_inv (List.pairwise_cons.1 h1).2 (List.pairwise_cons.1 h2).2]
end Go.Proofs.Ytmdlbjeiokadaaa
