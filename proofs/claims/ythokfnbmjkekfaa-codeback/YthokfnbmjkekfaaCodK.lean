/- Package code: New; readers that a call made itself; leatlaw07.works. -/
import Derived.Test.YthokfnbmjkekfaaCodJ
import Derived.Deep.CutBlock
namespace Go.Proofs.Ythokfnbmjkekfaa
open Go.RowKit
set_option linter.unusedVariables false

/-- A reader among the blocks that came since w. -/
def RdIn (w : World) (b g : Nat) (bs : List Int) (a : Nat) (er : Int) (wr : World) : Prop := IsRd wr b g bs a er ∧ w.heap.size ≤ b ∧ (bs = [] ∨ w.heap.size ≤ g) ∧ Below w.heap.size w wr
theorem RdIn.kept {w wr w' : World} {b g : Nat} {bs : List Int} {a : Nat} {er : Int} (h : RdIn w b g bs a er wr) (B : Below wr.heap.size wr w') : RdIn w b g bs a er w' := ⟨h.1.kept B, h.2.1, h.2.2.1, new_then h.2.2.2 B⟩
theorem RdIn.turned {w wr w' : World} {b g : Nat} {bs bs' : List Int} {a a' : Nat} {er er' : Int} (h : RdIn w b g bs a er wr) (h' : IsRd w' b g bs' a' er') (hb : bs = [] → bs' = []) (o : Out (fun j => j = b) wr w') : RdIn w b g bs' a' er' w' :=
  ⟨h', h.2.1, h.2.2.1.imp hb (fun e => e), h.2.2.2.trans (o.below h.2.2.2.size (fun k hk => by subst hk; exact h.2.1))⟩
def NewTo (w : World) (ys : List Int) (e : Ending) (w' : World) : Prop := ∃ b g, e = .returned (.pointer (some ⟨b, 0, none⟩)) ∧ RdIn w b g ys 0 0 w'
theorem newR (A : Option Addr) (m c : Nat) (ys : List Int) (w : World) (h : Src .u8 w A m c ys) (hm : m ≤ 1000000) (hy : ∀ x ∈ ys, 0 ≤ x ∧ x ≤ 255) :
    Calls Try.prog 14 #[.slice A m c] w (NewTo w ys) := by
  have HM := Lib.hid h.1
  have HS := Lib.hid h
  have HY := Lib.hid hy
  clear h hy
  go_enter Try.func14, Try.ntmps14
  go_wp2_with (first
    | (go_at_call 26; refine (cloneB_any A m c ys _ HS.out hm).mono ?_; rintro e w1 ⟨v1, rfl, O1, B1⟩; rcases OwnK.form O1 with ⟨rfl, rfl⟩ | ⟨g, c1, rfl⟩))
  · go_ret
    have hs := B1.size
    exact ⟨w1.heap.size, w1.heap.size, rfl, ⟨none, 0, 0, Blk.new w1 [.slice none 0 0, .int .i64 0, .int .i64 0] _, .inl rfl, rfl, Nat.le_refl _, fun x hx => absurd hx (by simp), by omega, .inl rfl⟩, hs, .inl rfl, new_alloc B1 _⟩
  · go_ret
    have hs := B1.size
    obtain ⟨_, hnc, hcm, hbg, cur, _, hB, _⟩ := O1.blk
    have hlt := hB.lt
    have hml := HM.out
    exact ⟨w1.heap.size, g, rfl, ⟨_, _, c1, Blk.new w1 [.slice (some ⟨g, 0, none⟩) ys.length c1, .int .i64 0, .int .i64 0] _, .inr ⟨0, rfl, fun i hi => by rw [Nat.zero_add]; exact (O1.alloc _).cell hi⟩, rfl, hnc, HY.out, by omega, .inr ⟨by omega, by simp; omega⟩⟩, hs, .inr hbg, new_alloc B1 _⟩

theorem src_none0 (k : IntKind) (w : World) : Src k w none 0 0 [] := ⟨rfl, .inl ⟨rfl, rfl, rfl⟩⟩
theorem src_new {k : IntKind} (w : World) (xs : List Int) (n c : Nat) (t : TypeId) (hn : xs.length = n) : Src k (w.alloc (.cells (xs.map (Value.int k)).toArray t)) (some ⟨w.heap.size, 0, none⟩) n c xs := by
  refine ⟨hn.symm, .inr ⟨_, rfl, fun j hj => ?_⟩⟩
  have := (At.new w (xs.map (Value.int k)) t).cell j (v := .int k (xs[j]?.getD 0)) (by simp [List.getElem?_map, List.getElem?_eq_getElem hj])
  unfold Addr.add
  split
  · simp_all
  · simpa using this

theorem nb300 : nb (300 : Int).toNat = [172, 2] := by
  show nb 300 = _
  rw [nb_high (by decide), nb_low (by decide)]; rfl
set_option maxRecDepth 100000 in
set_option maxHeartbeats 1000000 in
theorem works07_any (w : World) : Calls Try.prog 13 #[] w fun e w' => e = .returned (.bool true) ∧ Below w.heap.size w w' := by
  have N1 : Hid (Nx [172] 0 top64 0 0 3) := Lib.hid (.inr (.inl ⟨rfl, by decide, rfl, rfl, rfl⟩))
  have N2 : Hid (Nx [128, 0] 0 top64 0 0 5) := Lib.hid (.inr (.inr (.inl ⟨rfl, by decide, by decide, rfl, rfl, rfl⟩)))
  have E3 := Lib.hid nb300
  go_enter Try.func13, Try.ntmps13
  go_upto_region 6 with (first
    | (go_at_call 7; refine (put_one none 0 0 [] 300 2 w _ (src_none0 _ _) (by decide) (by decide) (by rw [E3.out]; rfl) (by decide)).mono ?_; rw [E3.out]; rintro e w1 ⟨g1, c1, rfl, O1, B1⟩)
    | (go_at_call 14; have h := o3; clear h; refine (newR _ 2 2 [128, 0] _ (src_new w3 [128, 0] 2 2 _ rfl) (by decide) (by decide)).mono ?_; rintro e w4 ⟨b4, g4, rfl, R4⟩)
    | (go_at_call 14; refine (newR _ 1 1 [172] _ (src_new w1 [172] 1 1 _ rfl) (by decide) (by decide)).mono ?_; rintro e w2 ⟨b2, g2, rfl, R2⟩)
    | (go_at_call 21; have h := R4; clear h; refine (take_no b4 g4 _ 0 0 0 0 5 _ R4.1 N2.out (by decide)).mono ?_; rintro e w5 ⟨rfl, Q5, o5⟩)
    | (go_at_call 21; refine (take_no b2 g2 _ 0 0 0 0 3 _ R2.1 N1.out (by decide)).mono ?_; rintro e w3 ⟨rfl, Q3, o3⟩))
  have L1 := new_then (new_alloc (new_refl w) _) B1
  have hg1 := (OwnK.some O1 rfl (by decide))
  obtain ⟨g1', c1', e1, _, hlt1⟩ := hg1
  simp at e1
  obtain ⟨rfl, rfl⟩ := e1
  obtain ⟨_, hb2, _, B2⟩ := R2
  obtain ⟨_, hb4, _, B4⟩ := R4
  rw [alloc_size] at hb2 hb4
  have hs1 := L1.size
  have hq3 := Q3.lt.1
  have O2 := (O1.alloc _).kept B2
  have O3 := O2.out o3 (fun g hg => by simp [Value.ownBlock] at hg; omega)
  have O4 := (O3.alloc _).kept B4
  have O5 := O4.out o5 (fun g hg => by simp [Value.ownBlock] at hg; have := o3.size; have := B2.size; simp at this; omega)
  have a0 := O5.cell (i := 0) (by simp)
  have a1 := O5.cell (i := 1) (by simp)
  simp at a0 a1
  have P4 := (Q3.kept (new_alloc (new_refl w3) _)).kept B4
  have P5 := P4.out o5 (by omega) (fun h => absurd rfl h)
  have B3 : Below w.heap.size w w3 := (new_then (new_alloc L1 _) B2).trans (o3.below (by have := B2.size; simp at this; omega) (fun k hk => by subst hk; omega))
  have B5 : Below w.heap.size w w5 := (new_then (new_alloc B3 _) B4).trans (o5.below (by have := B4.size; have := B3.size; simp at *; omega) (fun k hk => by subst hk; have := B3.size; omega))
  clear O1 O2 O3 O4 O5 B1 B2 B4 L1 Q3 P4 B3 o3 o5
  go_wp2_with (first
    | (go_at_call_of 25 (Value.pointer (some ⟨b2, 0, none⟩)); refine (errR b2 g2 [] 0 3 _ P5).mono ?_; rintro e w' ⟨rfl, rfl⟩)
    | (go_at_call_of 25 (Value.pointer (some ⟨b4, 0, none⟩)); refine (errR b4 g4 [] 0 5 _ Q5).mono ?_; rintro e w' ⟨rfl, rfl⟩)
    | (go_at_call 24; refine (atR b2 g2 [] 0 3 _ P5).mono ?_; rintro e w' ⟨rfl, rfl⟩))

  go_ret
  exact ⟨rfl, B5⟩
end Go.Proofs.Ythokfnbmjkekfaa
