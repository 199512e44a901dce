/- Package option: Find (slices.IndexFunc, slices.Clone of uint32). -/
import Derived.Test.YtnkcnfkonifmhaaZOptI
namespace Go.Proofs.Ytnkcnfkonifmhaa
open Go.RowKit
set_option linter.unusedVariables false
def FndI (w : World) (xs : List OC) (kind : Int) (n gh : Nat) (vi : Value) (wr : World) : Prop :=
  ∃ i : Nat, vi = .int .i64 (i : Int) ∧ n - i = gh ∧ i ≤ n ∧ (∀ j, j < i → (nthO xs j).o.k ≠ kind) ∧ Below w.heap.size w wr
/-- Where the first option of a kind stands. -/
def FndTo (w : World) (xs : List OC) (kind : Int) (n : Nat) (e : Ending) (w' : World) : Prop :=
  ((e = .returned (.int .i64 (-1)) ∧ ∀ i, i < n → (nthO xs i).o.k ≠ kind) ∨ ∃ i : Nat, e = .returned (.int .i64 (i : Int)) ∧ i < n ∧ (∀ j, j < i → (nthO xs j).o.k ≠ kind) ∧ (nthO xs i).o.k = kind) ∧ Below w.heap.size w w'

/-- A copy of an option's numbers. -/
def CloTo (w : World) (x : OC) (e : Ending) (w' : World) : Prop := ∃ A c, e = .returned (.slice A x.n c) ∧ HasO w' ⟨x.o, A, x.n, c⟩ ∧ Below w.heap.size w w'
theorem hasO_own {w : World} {base : Nat} {o : Opt} {A : Option Addr} {n c : Nat} (h : OwnN w base (.slice A n c) o.zs) (hu : ∀ z ∈ o.zs, 0 ≤ z ∧ z ≤ 4294967295) (hf : n ≤ 100) (hs : o.s.size ≤ 100) : HasO w ⟨o, A, n, c⟩ := by
  rcases h.form with ⟨e, hz⟩ | ⟨g, c', e⟩
  · simp at e
    obtain ⟨rfl, rfl, rfl⟩ := e
    exact ⟨by simp [hz], ⟨0, .inl hz⟩, hu, hf, hs, Nat.le_refl _⟩
  · simp at e
    obtain ⟨rfl, rfl, rfl⟩ := e
    obtain ⟨_, h2, _, _, _⟩ := h.blk
    exact ⟨rfl, ⟨g, own_ls h⟩, hu, hf, hs, h2⟩
end Go.Proofs.Ytnkcnfkonifmhaa
namespace Go.Proofs.Ytnkcnfkonifmhaa
open Go.RowKit
set_option linter.unusedVariables false
theorem new_set3 {a w : World} (h : Below a.heap.size a w) {g : Nat} (hg : a.heap.size ≤ g) (u v x : Value) : Below a.heap.size a (((w.setCell ⟨g, 0, none⟩ u).setCell ⟨g, 1, none⟩ v).setCell ⟨g, 2, none⟩ x) :=
  new_set (new_set (new_set h (p := ⟨g, 0, none⟩) hg u) (p := ⟨g, 1, none⟩) hg v) (p := ⟨g, 2, none⟩) hg x
/-- Numbers lie in no block that holds something else. -/
theorem LsK.apart {k : IntKind} {w : World} {g p : Nat} {A : Option Addr} {zs : List Int} {vs : List Value} {t : TypeId} (h : LsK k w g A zs) (hb : Blk w p vs t) (hv : ∀ v ∈ vs, ∀ z, v ≠ .int k z) (j : Nat) (u : Value) : LsK k (w.setCell ⟨p, j, none⟩ u) g A zs := by
  rcases h with h | ⟨off, e, h⟩
  · exact .inl h
  · refine .inr ⟨off, e, fun i hi => ?_⟩
    have h1 := h i hi
    rw [World.cell?_setCell_other _ _ _ _ ?_]
    · exact h1
    · intro he
      cases he
      rw [cell_of_row w _ _ _ t _ hb] at h1
      have h2 : vs[off + i]? = some (.int k (zs[i]?.getD 0)) := by simpa using h1
      exact hv _ (List.mem_of_getElem? h2) _ rfl
theorem HasO.apart {w : World} {p : Nat} {x : OC} {vs : List Value} {t : TypeId} (h : HasO w x) (hb : Blk w p vs t) (hv : ∀ v ∈ vs, ∀ z, v ≠ .int .u32 z) (j : Nat) (u : Value) : HasO (w.setCell ⟨p, j, none⟩ u) x :=
  ⟨h.len, h.ls.imp fun g l => l.apart hb hv j u, h.u32, h.few, h.txt, h.room⟩
theorem noU3 (a : Int) (A : Option Addr) (n c : Nat) (s : ByteArray) : ∀ v ∈ [Value.int .i64 a, .slice A n c, .string s], ∀ z, v ≠ .int .u32 z := by
  intro v hv z
  simp at hv
  rcases hv with rfl | rfl | rfl <;> simp
theorem HasO.apart3 {w : World} {p : Nat} {x : OC} {a b : Int} {A B : Option Addr} {n c m d : Nat} {s s' : ByteArray} {t : TypeId} (h : HasO w x) (hb : Blk w p [.int .i64 a, .slice A n c, .string s] t) : HasO (((w.setCell ⟨p, 0, none⟩ (.int .i64 b)).setCell ⟨p, 1, none⟩ (.slice B m d)).setCell ⟨p, 2, none⟩ (.string s')) x :=
  ((h.apart hb (noU3 _ _ _ _ _) 0 _).apart (hb.set 0 (.int .i64 b)) (noU3 _ _ _ _ _) 1 _).apart ((hb.set 0 (.int .i64 b)).set 1 (.slice B m d)) (noU3 _ _ _ _ _) 2 _
/-- An option that was found: its numbers lie in a list of their own. -/
def FindTo (w : World) (x : OC) (e : Ending) (w' : World) : Prop :=
  ∃ A c, e = .returned (.tuple #[.agg #[.int .i64 x.o.k, .slice A x.n c, .string x.o.s], .bool true]) ∧ HasO w' ⟨x.o, A, x.n, c⟩ ∧ Below w.heap.size w w'
end Go.Proofs.Ytnkcnfkonifmhaa
namespace Go.Proofs.Ytnkcnfkonifmhaa
open Go.RowKit
set_option linter.unusedVariables false

/-- Which counter stands at a place, when the first i numbers are told. -/
def cO (k : Int) (zs : List Int) (i j : Nat) : Int := if k = 172 then (if j < i then bF zs j else -1) else if k = 174 then (if 2 - j < i then bF zs (2 - j) else -1) else -1
def plO (k : Int) (i : Nat) : Nat := if k = 174 then 2 - i else i
theorem pl_three {k : Int} {i : Nat} (h : i < 3) : plO k i < 3 := by unfold plO; split <;> omega
abbrev cellsC (k : Int) (zs : List Int) (i : Nat) : List Value := [.int .i64 (cO k zs i 0), .int .i64 (cO k zs i 1), .int .i64 (cO k zs i 2)]
theorem cells_at (k : Int) (zs : List Int) (i p : Nat) (h : p < 3) : (cellsC k zs i)[p]? = some (.int .i64 (cO k zs i p)) := by
  rcases (show p = 0 ∨ p = 1 ∨ p = 2 by omega) with rfl | rfl | rfl <;> rfl
theorem cells_zero (k : Int) (zs : List Int) : cellsC k zs 0 = [.int .i64 (-1), .int .i64 (-1), .int .i64 (-1)] := by simp [cellsC, cO]
theorem cells_set {k : Int} {zs : List Int} {i : Nat} (hk : k = 172 ∨ k = 174) (h : i < 3) : (cellsC k zs i).set (plO k i) (.int .i64 (bF zs i)) = cellsC k zs (i + 1) := by
  rcases (show i = 0 ∨ i = 1 ∨ i = 2 by omega) with rfl | rfl | rfl <;> rcases hk with rfl | rfl <;> simp [cellsC, cO, plO]
theorem cells_not {k : Int} (zs : List Int) (i : Nat) (h : k ≠ 172) (h' : k ≠ 174) : cellsC k zs i = [.int .i64 (-1), .int .i64 (-1), .int .i64 (-1)] := by simp [cellsC, cO, h, h']
theorem noU64 (a b c : Int) : ∀ v ∈ [Value.int .i64 a, .int .i64 b, .int .i64 c], ∀ z, v ≠ .int .u32 z := by
  intro v hv z
  simp at hv
  rcases hv with rfl | rfl | rfl <;> simp
theorem num_apart {k : IntKind} {w : World} {g o p : Nat} {z : Int} {vs : List Value} {t : TypeId} (hb : Blk w p vs t) (hv : ∀ v ∈ vs, ∀ z, v ≠ .int k z) (h : w.cell? ⟨g, o, none⟩ = some (.int k z)) : g ≠ p := by
  rintro rfl
  rw [cell_of_row w _ _ _ t _ hb] at h
  have h2 : vs[o]? = some (.int k z) := by simpa using h
  exact hv _ (List.mem_of_getElem? h2) _ rfl
def CtrTo (w : World) (x : OC) (e : Ending) (w' : World) : Prop := e = .returned (.agg #[.int .i64 (cO x.o.k x.o.zs (min x.n 3) 0), .int .i64 (cO x.o.k x.o.zs (min x.n 3) 1), .int .i64 (cO x.o.k x.o.zs (min x.n 3) 2)]) ∧ Below w.heap.size w w'
end Go.Proofs.Ytnkcnfkonifmhaa
namespace Go.Proofs.Ytnkcnfkonifmhaa
open Go.RowKit
set_option linter.unusedVariables false

/-- A number modulo 2^24. -/
def loO (x : Int) : Int := x % 16777216
theorem lo_bd12 (x : Int) : 0 ≤ loO x ∧ loO x ≤ 16777215 := by unfold loO; omega
theorem and24 (n : Int) : bits .and .i64 n 16777215 = loO n := by
  have h127 : (BitVec.ofInt 64 16777215).toNat = 2 ^ 24 - 1 := by decide
  have key : (BitVec.ofInt 64 n &&& BitVec.ofInt 64 16777215).toNat = (n % ((2 ^ 64 : Nat) : Int)).toNat % 2 ^ 24 := by
    rw [BitVec.toNat_and, BitVec.toNat_ofInt, h127, Nat.and_two_pow_sub_one_eq_mod]
  show IntKind.i64.wrap ((BitVec.ofInt 64 n &&& BitVec.ofInt 64 16777215).toNat : Nat) = n % 16777216
  rw [key, IntKind.wrap_i64]
  omega
/-- Which counter stands where; an option that tells some of them. -/
def srcA (a b c : Int) (p : Nat) : Int := if p = 0 then a else if p = 1 then b else c
def kdA (k : Int) : Int := if k = 174 then 174 else 172
def acN (k a b c : Int) (i : Nat) : Int := loO (srcA a b c (plO k i))
def acL (k a b c : Int) (M : Nat) : List Int := (List.range M).map (acN k a b c)
def accO (k a b c : Int) (M : Nat) : Opt := ⟨kdA k, acL (kdA k) a b c M, ByteArray.empty⟩
theorem acL_len (k a b c : Int) (M : Nat) : (acL k a b c M).length = M := by simp [acL]
theorem acL_more (k a b c : Int) (i : Nat) : acL k a b c (i + 1) = acL k a b c i ++ [acN k a b c i] := by simp [acL, List.range_succ]
theorem acL_u (k a b c : Int) (M : Nat) : ∀ z ∈ acL k a b c M, 0 ≤ z ∧ z ≤ 4294967295 := by
  intro z hz
  simp only [acL, List.mem_map] at hz
  obtain ⟨i, _, rfl⟩ := hz
  have := lo_bd12 (srcA a b c (plO k i))
  unfold acN; omega
theorem src_at12 (a b c : Int) (p : Nat) (h : p < 3) : [Value.int .i64 a, .int .i64 b, .int .i64 c][p]? = some (.int .i64 (srcA a b c p)) := by
  rcases (show p = 0 ∨ p = 1 ∨ p = 2 by omega) with rfl | rfl | rfl <;> rfl

/-- An option in memory whose numbers grow: they lie in a row of its own. -/
def Grow (w : World) (base p : Nat) (k : Int) (s : ByteArray) (zs : List Int) (v : Value) : Prop := Blk w p [.int .i64 k, v, .string s] 76 ∧ OwnN w base v zs
/-- What one more number may write. -/
def GroF (w : World) (base p j : Nat) : Prop := j = p ∨ (base ≤ j ∧ TyAt w j 25)
theorem grow_fin {w w1 w3 : World} {base p g n1 c1 : Nat} {v : Value} {k z : Int} {s : ByteArray} {zs : List Int} (H : Grow w base p k s zs v) (B : Below w.heap.size w w1)
    (O : OwnN w3 base (.slice (some ⟨g, 0, none⟩) n1 c1) (zs ++ [z])) (G : w1.grownBy w3 v.ownBlock) :
    Grow (w3.setCell ⟨p, 1, none⟩ (.slice (some ⟨g, 0, none⟩) n1 c1)) base p k s (zs ++ [z]) (.slice (some ⟨g, 0, none⟩) n1 c1) ∧ Out (GroF w base p) w (w3.setCell ⟨p, 1, none⟩ (.slice (some ⟨g, 0, none⟩) n1 c1)) := by
  obtain ⟨h1, h2⟩ := H
  have hp : v.ownBlock ≠ some p := fun e => absurd (ty_one (own_ty h2 e) ⟨_, h1⟩) (by decide)
  have B1 := h1.kept B
  have o1 := out_pushE G
  have B3 := B1.out o1 (fun e => hp e)
  have hg : g ≠ p := fun e => by
    have t1 := own_ty O (g := g) rfl
    rw [e] at t1
    exact absurd (ty_one t1 ⟨_, B3⟩) (by decide)
  have oS : Out (fun j => j = p) w3 (w3.setCell ⟨p, 1, none⟩ (.slice (some ⟨g, 0, none⟩) n1 c1)) := Out.set (p := ⟨p, 1, none⟩) (Out.refl (fun j => j = p) w3) (.inl rfl) _
  refine ⟨⟨B3.set 1 _, O.out oS (fun j e => by simp [Value.ownBlock] at e; subst e; exact hg)⟩, ?_⟩
  have F1 : Out (GroF w base p) w w3 := (Out.of B _).trans o1 (fun i hi e => .inr ⟨(World.ownsRow.lt h2 i e).1, own_ty h2 e⟩)
  exact Out.set (p := ⟨p, 1, none⟩) F1 (.inl (.inl rfl)) _
theorem gro_far {w : World} {base p j : Nat} {t : TypeId} (h : TyAt w j t) (ht : t ≠ 25) (hj : j ≠ p) : ¬ GroF w base p j := by
  rintro (e | ⟨_, e⟩)
  · exact hj e
  · exact ht (ty_one h e)
theorem gro_below {w w' : World} {B base p : Nat} (o : Out (GroF w base p) w w') (hb : B ≤ w.heap.size) (hp : B ≤ p) (hB : B ≤ base) : Below B w w' := o.below hb (fun k h => by rcases h with rfl | h; exact hp; exact Nat.le_trans hB h.1)
theorem Grow.has {w : World} {base p n c : Nat} {k : Int} {s : ByteArray} {zs : List Int} {A : Option Addr} (h : Grow w base p k s zs (.slice A n c)) (hu : ∀ z ∈ zs, 0 ≤ z ∧ z ≤ 4294967295) (hf : zs.length ≤ 100) (hs : s.size ≤ 100) : HasO w ⟨⟨k, zs, s⟩, A, n, c⟩ ∧ zs.length = n := by
  have hn : zs.length = n := by
    rcases h.2.form with ⟨e, hz⟩ | ⟨g, c', e⟩
    · simp at e; simp [hz, e]
    · simp at e; exact e.2.1.symm
  exact ⟨hasO_own (o := ⟨k, zs, s⟩) h.2 hu (by omega) hs, hn⟩
theorem Grow.form {w : World} {base p : Nat} {k : Int} {s : ByteArray} {zs : List Int} {v : Value} (h : Grow w base p k s zs v) : ∃ A n c, v = .slice A n c ∧ zs.length = n := by
  rcases h.2.form with ⟨rfl, hz⟩ | ⟨g, c', rfl⟩
  · exact ⟨_, _, _, rfl, by simp [hz]⟩
  · exact ⟨_, _, _, rfl, rfl⟩
/-- An option that a call made: its numbers lie in a list of its own. -/
def MadeO (w : World) (o : Opt) (e : Ending) (w' : World) : Prop := ∃ A n c, e = .returned (.agg #[.int .i64 o.k, .slice A n c, .string o.s]) ∧ HasO w' ⟨o, A, n, c⟩ ∧ Below w.heap.size w w'
/-- How many counters are told. -/
def mnA (m : Int) : Nat := if m ≤ 0 then 0 else if 3 ≤ m then 3 else m.toNat
end Go.Proofs.Ytnkcnfkonifmhaa
