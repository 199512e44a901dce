/- Package option: again, and what it hands out; are all bytes 0; may an option be (within). -/
import Derived.Test.YtdibhpiafipibaaOptC
namespace Go.Proofs.Ytdibhpiafipibaa
open Go.RowKit
set_option linter.unusedVariables false

/-- Of which type a block is. -/
def TyAt (w : World) (g : Nat) (t : TypeId) : Prop := ∃ cur, Blk w g cur t
theorem ty_one {w : World} {g : Nat} {t t' : TypeId} (h : TyAt w g t) (h' : TyAt w g t') : t = t' := by
  obtain ⟨c, h⟩ := h
  obtain ⟨c', h'⟩ := h'
  have := (Option.some.inj (h.symm.trans h'))
  simp at this
  exact this.2
theorem own_ty {k : IntKind} {e : TypeId} {w : World} {base g : Nat} {v : Value} {zs : List Int} (h : OwnK k e w base v zs) (hg : v.ownBlock = some g) : TyAt w g e := by
  rcases h.form with ⟨rfl, _⟩ | ⟨g', c, rfl⟩
  · simp [Value.ownBlock] at hg
  · simp [Value.ownBlock] at hg
    subst hg
    obtain ⟨_, _, _, _, cur, _, hB, _⟩ := h.blk
    exact ⟨cur, hB⟩
theorem own_tyO {w : World} {base g : Nat} {v : Value} {xs : List OC} (h : OwnO w base v xs) (hg : v.ownBlock = some g) : TyAt w g 32 := by
  rcases h.form with ⟨rfl, _⟩ | ⟨g', c, rfl⟩
  · simp [Value.ownBlock] at hg
  · simp [Value.ownBlock] at hg
    subst hg
    obtain ⟨_, _, _, _, rest, hB, _⟩ := h.blk encO_is
    exact ⟨_, hB⟩
def WasAt (w : World) (base p : Nat) (ks : List Int) : Prop := ∃ vw, Blk w p [vw] 24 ∧ OwnI12 w base vw ks ∧ base ≤ p
def addO (ks : List Int) (k : Int) : List Int := if (knO k && !(ks.any fun x => x == k)) = true then ks ++ [k] else ks
/-- What it may write. -/
def WasF (w : World) (base j : Nat) : Prop := base ≤ j ∧ (TyAt w j 3 ∨ TyAt w j 24)
theorem WasAt.kept {w w' : World} {base p : Nat} {ks : List Int} (h : WasAt w base p ks) (b : Below w.heap.size w w') : WasAt w' base p ks := by
  obtain ⟨vw, h1, h2, h3⟩ := h
  exact ⟨vw, h1.kept b, h2.kept b, h3⟩
theorem was_new (w : World) : WasAt (w.alloc (.cells #[.slice none 0 0] 24)) w.heap.size w.heap.size [] := ⟨_, Blk.new w [.slice none 0 0] _, OwnK.nil _ _ _ _, Nat.le_refl _⟩
def WasTo (w : World) (base p : Nat) (ks : List Int) (k : Int) (e : Ending) (w' : World) : Prop :=
  e = .returned (.bool (knO k && ks.any fun x => x == k)) ∧ WasAt w' base p (addO ks k) ∧ Out (WasF w base) w w'
theorem LsK.ownI {w : World} {base : Nat} {A : Option Addr} {n c : Nat} {ks : List Int} (h : OwnI12 w base (.slice A n c) ks) : ∃ g, LsK .i64 w g A ks ∧ ks.length = n := by
  rcases h.form with ⟨e, rfl⟩ | ⟨g, c', e⟩
  · simp at e
    exact ⟨0, .inl rfl, by simp [e]⟩
  · simp at e
    obtain ⟨rfl, rfl, rfl⟩ := e
    exact ⟨g, own_ls h, rfl⟩
theorem was_fin {w w1 w3 : World} {base p g n c n1 c1 : Nat} {A : Option Addr} {ks : List Int} {k : Int} (hb : base ≤ w.heap.size) (h1 : Blk w p [.slice A n c] 24) (h2 : OwnI12 w base (.slice A n c) ks) (h3 : base ≤ p) (B : Below w.heap.size w w1)
    (O : OwnI12 w3 base (.slice (some ⟨g, 0, none⟩) n1 c1) (ks ++ [k])) (G : w1.grownBy w3 (Value.slice A n c).ownBlock) :
    WasAt (w3.setCell ⟨p, 0, none⟩ (.slice (some ⟨g, 0, none⟩) n1 c1)) base p (ks ++ [k]) ∧ Out (WasF w base) w (w3.setCell ⟨p, 0, none⟩ (.slice (some ⟨g, 0, none⟩) n1 c1)) := by
  have hp : (Value.slice A n c).ownBlock ≠ some p := fun e => absurd (ty_one (own_ty h2 e) ⟨_, h1⟩) (by decide)
  have B1 := h1.kept B
  have o1 := out_pushE G
  have B3 := B1.out o1 (fun e => hp e)
  have hg : g ≠ p := fun e => by
    have t1 := own_ty O (g := g) rfl
    rw [e] at t1
    exact absurd (ty_one t1 ⟨_, B3⟩) (by decide)
  have oS : Out (fun j => j = p) w3 (w3.setCell ⟨p, 0, none⟩ (.slice (some ⟨g, 0, none⟩) n1 c1)) := Out.set (p := ⟨p, 0, none⟩) (Out.refl (fun j => j = p) w3) (.inl rfl) _
  refine ⟨⟨_, B3.set 0 _, O.out oS (fun j e => by simp [Value.ownBlock] at e; subst e; exact hg), h3⟩, ?_⟩
  have F1 : Out (WasF w base) w w3 := (Out.of B _).trans o1 (fun i hi e => ⟨(World.ownsRow.lt h2 i e).1, .inl (own_ty h2 e)⟩)
  exact Out.set (p := ⟨p, 0, none⟩) F1 (.inl ⟨h3, .inr ⟨_, h1⟩⟩) _

/-- The kinds that were are those of the known options. -/
def KsOf (os : List Opt) (ks : List Int) : Prop := (∀ k, (knO k && ks.any fun x => x == k) = hadO os k) ∧ ks.length ≤ os.length
theorem ks_nil : KsOf [] [] := ⟨fun k => by simp [hadO], Nat.le_refl _⟩
theorem ks_more {os : List Opt} {ks : List Int} (h : KsOf os ks) (o : Opt) : KsOf (os ++ [o]) (addO ks o.k) := by
  obtain ⟨h, hl⟩ := h
  refine ⟨fun k => ?_, ?_⟩
  · have hk := h k
    have ho := h o.k
    simp only [hadO, addO, List.any_append] at hk ho ⊢
    by_cases e : o.k = k
    · rw [e] at ho ⊢
      cases h1 : knO k
      · simp
      · rw [h1] at ho
        simp only [Bool.true_and] at ho ⊢
        cases h2 : ks.any (fun x => x == k)
        · simp [h2]; exact .inr e
        · simp [← ho, h2]
    · have e1 : (o.k == k) = false := by simp [e]
      cases h1 : knO k
      · simp
      · rw [h1] at hk
        simp only [Bool.true_and] at hk
        simp only [Bool.true_and]
        split
        · rw [List.any_append, hk]; simp [e1]
        · rw [hk]; simp [e1]
  · unfold addO
    split <;> simp <;> omega
end Go.Proofs.Ytdibhpiafipibaa
