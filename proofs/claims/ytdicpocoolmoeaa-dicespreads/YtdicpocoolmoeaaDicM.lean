/- Plain facts on draws: what misses between those that hit, how many hit, draws by a seed. -/
import Derived.Test.YtdicpocoolmoeaaDicA
namespace Go.Proofs.Ytdicpocoolmoeaa
set_option linter.unusedVariables false

/-- The draw behind x. -/
def nxt (x : Int) : Int := (x * 1664525 + 1013904223) % 4294967296
def itr (s : Int) : Nat → Int
  | 0 => s
  | n + 1 => nxt (itr s n)
/-- The first n draws by a seed. -/
def spr (s : Int) (n : Nat) : List Int := (List.range n).map fun i => itr s (i + 1)
theorem nxt_is (x : Int) : isU32 (nxt x) := by unfold isU32 nxt; omega
theorem itr_is {s : Int} (h : isU32 s) : ∀ n, isU32 (itr s n)
  | 0 => h
  | n + 1 => nxt_is _
theorem spr_succ (s : Int) (n : Nat) : spr s (n + 1) = spr s n ++ [itr s (n + 1)] := by simp [spr, List.range_succ]
theorem spr_len (s : Int) (n : Nat) : (spr s n).length = n := by simp [spr]
theorem spr_set (s : Int) (n k : Nat) (h : k < n) : (spr s k ++ List.replicate (n - k) 0).set k (itr s (k + 1)) = spr s (k + 1) ++ List.replicate (n - (k + 1)) 0 := by
  obtain ⟨j, hj⟩ : ∃ j, n - k = j + 1 := ⟨n - k - 1, by omega⟩
  rw [hj, show n - (k + 1) = j by omega, List.replicate_succ, spr_succ]
  have h1 := List.set_append_right (s := spr s k) (t := (0 : Int) :: List.replicate j 0) k (itr s (k + 1)) (by rw [spr_len]; omega)
  rw [h1, spr_len, Nat.sub_self]
  simp

/-- gs tells how many of ds miss ahead of each one that hits, and behind all. -/
def Gap (s : Int) : List Nat → List Int → Prop
  | [], _ => False
  | [n], ds => ds.length = n ∧ ∀ x ∈ ds, hitB x s = false
  | n :: m :: r, ds => n < ds.length ∧ (∀ x ∈ ds.take n, hitB x s = false) ∧ hitB (ds[n]?.getD 0) s = true ∧ Gap s (m :: r) (ds.drop (n + 1))
def bump : List Nat → List Nat
  | [] => []
  | [n] => [n + 1]
  | n :: m :: r => n :: bump (m :: r)
theorem bump_len : ∀ gs, (bump gs).length = gs.length
  | [] => rfl
  | [n] => rfl
  | n :: m :: r => by simp [bump, bump_len (m :: r)]
theorem bump_set : ∀ gs : List Nat, 0 < gs.length → bump gs = gs.set (gs.length - 1) (gs[gs.length - 1]?.getD 0 + 1)
  | [], h => by simp at h
  | [n], _ => by simp [bump]
  | n :: m :: r, _ => by
    have h := bump_set (m :: r) (by simp)
    simp only [bump, List.length_cons, Nat.add_sub_cancel] at h ⊢
    rw [h]
    simp
theorem bump_cons (m : Nat) (r : List Nat) : ∃ m' r', bump (m :: r) = m' :: r' := by
  cases r with
  | nil => exact ⟨_, _, rfl⟩
  | cons a b => exact ⟨_, _, rfl⟩
theorem gap_hit {s x : Int} (hx : hitB x s = true) : ∀ {gs : List Nat} {ds : List Int}, Gap s gs ds → Gap s (gs ++ [0]) (ds ++ [x])
  | [], _, h => h.elim
  | [n], ds, ⟨h1, h2⟩ => by
    subst h1
    refine ⟨by simp, ?_, ?_, ?_⟩
    · simpa using h2
    · simpa using hx
    · simp [Gap]
  | n :: m :: r, ds, ⟨h1, h2, h3, h4⟩ => by
    have h5 := gap_hit hx h4
    refine ⟨by simp; omega, ?_, ?_, ?_⟩
    · rw [List.take_append_of_le_length (by omega)]; exact h2
    · rw [List.getElem?_append_left h1]; exact h3
    · rw [List.drop_append_of_le_length (by omega)]; exact h5
theorem gap_miss {s x : Int} (hx : hitB x s = false) : ∀ {gs : List Nat} {ds : List Int}, Gap s gs ds → Gap s (bump gs) (ds ++ [x])
  | [], _, h => h.elim
  | [n], ds, ⟨h1, h2⟩ => by
    refine ⟨by simp [h1], ?_⟩
    intro y hy
    rcases List.mem_append.1 hy with h | h
    · exact h2 y h
    · simp at h; subst h; exact hx
  | n :: m :: r, ds, ⟨h1, h2, h3, h4⟩ => by
    have h5 := gap_miss hx h4
    obtain ⟨m', r', e⟩ := bump_cons m r
    simp only [bump]
    rw [e] at h5 ⊢
    refine ⟨by simp; omega, ?_, ?_, ?_⟩
    · rw [List.take_append_of_le_length (by omega)]; exact h2
    · rw [List.getElem?_append_left h1]; exact h3
    · rw [List.drop_append_of_le_length (by omega)]; exact h5
/-- How many hit. -/
def cnt (s : Int) (ds : List Int) : Nat := (ds.filter fun x => hitB x s).length
theorem cnt_snoc (s : Int) (ds : List Int) (x : Int) : cnt s (ds ++ [x]) = cnt s ds + if hitB x s then 1 else 0 := by
  unfold cnt; rw [List.filter_append]; cases h : hitB x s <;> simp [h]
theorem cnt_none {s : Int} {ds : List Int} (h : ∀ x ∈ ds, hitB x s = false) : cnt s ds = 0 := by
  unfold cnt
  rw [List.length_eq_zero_iff, List.filter_eq_nil_iff]
  intro x hx; simp [h x hx]
theorem cnt_app (s : Int) (a b : List Int) : cnt s (a ++ b) = cnt s a + cnt s b := by unfold cnt; rw [List.filter_append, List.length_append]
theorem cnt_le (s : Int) (ds : List Int) : cnt s ds ≤ ds.length := List.length_filter_le _ _
theorem gap_cnt {s : Int} : ∀ {gs : List Nat} {ds : List Int}, Gap s gs ds → cnt s ds + 1 = gs.length
  | [], _, h => h.elim
  | [n], ds, ⟨h1, h2⟩ => by rw [cnt_none h2]; rfl
  | n :: m :: r, ds, ⟨h1, h2, h3, h4⟩ => by
    have h5 := gap_cnt h4
    have e : ds = ds.take n ++ (ds[n] :: ds.drop (n + 1)) := by rw [List.getElem_cons_drop, List.take_append_drop]
    have h3' : hitB ds[n] s = true := by simpa [List.getElem?_eq_getElem h1] using h3
    have e2 : cnt s ds = cnt s (ds.take n) + (1 + cnt s (ds.drop (n + 1))) := by
      conv => lhs; rw [e]
      rw [cnt_app, show ds[n] :: ds.drop (n + 1) = [ds[n]] ++ ds.drop (n + 1) from rfl, cnt_app]
      congr 2
      simp [cnt, h3']
    rw [e2, cnt_none h2, List.length_cons]
    omega
theorem gap_pos {s : Int} {gs : List Nat} {ds : List Int} (h : Gap s gs ds) : 0 < gs.length := by cases gs with
  | nil => exact h.elim
  | cons a l => simp
theorem gap_some {s : Int} : ∀ {gs : List Nat} {ds : List Int}, Gap s gs ds → ∀ g ∈ gs, g ≤ ds.length
  | [], _, h => h.elim
  | [n], ds, ⟨h1, h2⟩ => by intro g hg; simp at hg; omega
  | n :: m :: r, ds, ⟨h1, h2, h3, h4⟩ => by
    intro g hg
    rcases List.mem_cons.1 hg with rfl | hg
    · omega
    · have := gap_some h4 g hg
      simp at this; omega
/-- What a place among the numbers tells of the draws. -/
theorem gap_at {s : Int} {gs : List Nat} {ds : List Int} {k a n : Nat} (h : Gap s (gs.drop k) (ds.drop a)) (hk : k < gs.length) (hn : gs[k]?.getD 0 = n) (ha : a ≤ ds.length) :
    a + n ≤ ds.length ∧ (∀ j, j < n → hitB (ds[a + j]?.getD 0) s = false) ∧ ((k + 1 = gs.length ∧ a + n = ds.length) ∨ (k + 1 < gs.length ∧ a + n < ds.length ∧ hitB (ds[a + n]?.getD 0) s = true ∧ Gap s (gs.drop (k + 1)) (ds.drop (a + n + 1)))) := by
  rw [List.getElem?_eq_getElem hk] at hn
  simp at hn
  rw [List.drop_eq_getElem_cons hk, hn] at h
  have hl : (ds.drop a).length = ds.length - a := List.length_drop
  cases hr : gs.drop (k + 1) with
  | nil =>
    rw [hr] at h
    obtain ⟨h1, h2⟩ := h
    have he : k + 1 = gs.length := by have := congrArg List.length hr; simp at this; omega
    refine ⟨by omega, fun j hj => ?_, .inl ⟨he, by omega⟩⟩
    have := h2 (ds.drop a)[j] (List.getElem_mem (by omega))
    rw [List.getElem?_eq_getElem (by omega)]
    simpa using this
  | cons m r =>
    rw [hr] at h
    obtain ⟨h1, h2, h3, h4⟩ := h
    have he : k + 1 < gs.length := by have := congrArg List.length hr; simp at this; omega
    refine ⟨by omega, fun j hj => ?_, .inr ⟨he, by omega, ?_, ?_⟩⟩
    · have hj' : j < ((ds.drop a).take n).length := by rw [List.length_take]; omega
      have := h2 ((ds.drop a).take n)[j] (List.getElem_mem hj')
      rw [List.getElem?_eq_getElem (by omega)]
      simpa using this
    · rw [List.getElem?_drop] at h3; exact h3
    · rw [List.drop_drop] at h4; exact h4
end Go.Proofs.Ytdicpocoolmoeaa
