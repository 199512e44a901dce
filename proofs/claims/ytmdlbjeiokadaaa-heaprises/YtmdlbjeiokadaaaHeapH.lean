/- Plain facts for HeapRises: numbers that are pushed with their places; which were seen. -/
import Derived.Test.YtmdlbjeiokadaaaHeapM
namespace Go.Proofs.Ytmdlbjeiokadaaa
set_option linter.unusedVariables false

/-- The number at place i, as it waits. -/
def mkW (zs : List Int) (i : Nat) : Wt := ⟨zs[i]?.getD 0, 0, 0, i, i⟩
def mkE (zs : List Int) (i : Nat) : Ev := ⟨zs[i]?.getD 0, 0, 0, i⟩
def heapL (zs : List Int) : Nat → List Wt
  | 0 => []
  | k + 1 => ins (heapL zs k) (mkW zs k)
theorem heapL_len (zs : List Int) : ∀ k, (heapL zs k).length = k
  | 0 => rfl
  | k + 1 => by rw [heapL, ins_len, heapL_len zs k]
theorem heapL_perm (zs : List Int) : ∀ k, (heapL zs k).Perm ((List.range k).map (mkW zs))
  | 0 => List.Perm.refl _
  | k + 1 => by
    rw [heapL, List.range_succ, List.map_append]
    exact (ins_perm _ _).trans ((List.Perm.cons _ (heapL_perm zs k)).trans (List.perm_append_singleton _ _).symm)
theorem heapL_mem {zs : List Int} {k : Nat} {x : Wt} (h : x ∈ heapL zs k) : ∃ j, j < k ∧ x = mkW zs j := by
  have := (heapL_perm zs k).mem_iff.1 h
  rw [List.mem_map] at this
  obtain ⟨j, hj, rfl⟩ := this
  exact ⟨j, List.mem_range.1 hj, rfl⟩
theorem mkW_inj {zs : List Int} {i j : Nat} (h : mkW zs i = mkW zs j) : i = j := by
  have : (mkW zs i).t = (mkW zs j).t := by rw [h]
  have e : (i : Int) = (j : Int) := this
  omega
theorem Wt.lt_irrefl (x : Wt) : ¬ x.lt x := by unfold Wt.lt; omega

/-- Just those are marked that were popped. -/
def Seen (zs : List Int) (L : List Wt) (k n : Nat) (bs : List Bool) : Prop := bs.length = n ∧ ∀ j, j < n → (bs[j]?.getD false = true ↔ mkW zs j ∈ L.take k)
theorem seen_start (zs : List Int) (L : List Wt) (n : Nat) : Seen zs L 0 n (List.replicate n false) := by
  refine ⟨by simp, fun j hj => ?_⟩
  simp [hj]
theorem take_next {L R : List Wt} {x : Wt} {k : Nat} (h : L.drop k = x :: R) : L.take (k + 1) = L.take k ++ [x] ∧ L.drop (k + 1) = R := by
  have hk : k < L.length := by
    rcases Nat.lt_or_ge k L.length with q | q
    · exact q
    · rw [List.drop_of_length_le q] at h; cases h
  rw [List.drop_eq_getElem_cons hk] at h
  injection h with h1 h2
  exact ⟨by rw [List.take_succ_eq_append_getElem hk, h1], h2⟩
theorem asc_split {L R : List Wt} {x : Wt} {k : Nat} (ha : Asc L) (h : L.drop k = x :: R) : ∀ y ∈ L.take k, y.lt x := by
  rw [← List.take_append_drop k L, h, Asc, List.pairwise_append] at ha
  exact fun y hy => ha.2.2 y hy x List.mem_cons_self
theorem seen_not {zs : List Int} {L R : List Wt} {k n j : Nat} {bs : List Bool} (hs : Seen zs L k n bs) (ha : Asc L) (h : L.drop k = mkW zs j :: R) (hj : j < n) : bs[j]?.getD false = false := by
  cases hb : bs[j]?.getD false with
  | false => rfl
  | true => exact absurd (asc_split ha h _ ((hs.2 j hj).1 hb)) (Wt.lt_irrefl _)
theorem seen_next {zs : List Int} {L R : List Wt} {k n j : Nat} {bs : List Bool} (hs : Seen zs L k n bs) (h : L.drop k = mkW zs j :: R) (hj : j < n) : Seen zs L (k + 1) n (bs.set j true) := by
  refine ⟨by simpa using hs.1, fun i hi => ?_⟩
  rw [(take_next h).1, List.mem_append, List.mem_singleton]
  by_cases e : i = j
  · subst e
    simp [hs.1, hj]
  · rw [List.getElem?_set_ne (fun q => e q.symm), hs.2 i hi]
    constructor
    · exact .inl
    · rintro (h | h)
      · exact h
      · exact absurd (mkW_inj h) e
/-- The one told last. -/
def LastAt (L : List Wt) (k : Nat) (la ln : Int) : Prop := 0 < k → ∃ y ∈ L.take k, y.a = la ∧ y.t = ln ∧ ∀ z R, L.drop k = z :: R → y.lt z
theorem last_next {L R : List Wt} {x : Wt} {k : Nat} (ha : Asc L) (h : L.drop k = x :: R) : LastAt L (k + 1) x.a x.t := by
  intro _
  obtain ⟨h1, h2⟩ := take_next h
  refine ⟨x, by rw [h1]; simp, rfl, rfl, fun z R' hz => ?_⟩
  have := asc_split ha hz
  exact this x (by rw [h1]; simp)
end Go.Proofs.Ytmdlbjeiokadaaa
