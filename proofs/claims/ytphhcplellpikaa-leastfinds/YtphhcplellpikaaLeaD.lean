/- The document's own answers of layer 21: Put, Least, Len. -/
import Derived.Test.YtphhcplellpikaaLeaA
import Derived.Test.YtphhcplellpikaaRowP
import Derived.Deep.LoopGhost
import Derived.Deep.Light
import Derived.Deep.Onto
import Derived.Deep.RegionHeld3
namespace Go.Proofs.Ytphhcplellpikaa
open Go.RowKit
set_option linter.unusedVariables false

theorem strC21 : IsStr 25 46 (.agg #[.int .i64 0, .int .i64 0]) 2 16 := ⟨by kernel_rfl, by kernel_rfl, rfl, by decide⟩
abbrev OwnC21 (w : World) (base : Nat) (v : Value) (zs : List Lc) : Prop := OwnE encL 2 46 w base v zs
/-- Behind the document's Put: a new row. -/
def RefTo (w : World) (zs : List Lc) (e : Ending) (w' : World) : Prop := ∃ v', e = .returned v' ∧ OwnC21 w' w.heap.size v' zs ∧ Below w.heap.size w w'
set_option maxHeartbeats 1000000 in
theorem refPut21_any {base : Nat} {v : Value} {zs : List Lc} {w : World} (h : OwnC21 w base v zs) (hl : zs.length < 1000000) (t x : Int) :
    Calls Try.prog 7 #[v, .int .i64 t, .int .i64 x] w (RefTo w (ptL zs t x)) := by
  obtain ⟨A, c, rfl⟩ := h.isSlice
  have NR := Lib.hid (fun w => near21_any t w)
  have HO := Lib.hid h
  unfold ptL
  have hq : zs.length = 0 → atL zs t = nrL t := fun e => by rw [List.length_eq_zero_iff.1 e]; rfl
  have hs : ∀ k, zs.length = k + 1 → atL zs t = max (nrL t) (nthC zs k).a := fun k e => atL_some e t
  generalize atL zs t = R at *
  generalize nrL t = q at *
  obtain ⟨N, hN⟩ : ∃ N, zs.length = N := ⟨_, rfl⟩
  have HN := Lib.hid hN
  have HQ := Lib.hid hq
  have HS := Lib.hid hs
  rw [hN] at hl ⊢
  clear h hq hs hN
  go_enter Try.func7, Try.ntmps7
  go_upto_region 2 with (go_at_call 16; refine (NR.out _).mono ?_; rintro e w1 ⟨rfl, rfl⟩)
  have hcase : N = 0 ∨ ∃ k, N = k + 1 ∧ (q < (nthC zs k).a ∨ ¬ q < (nthC zs k).a) := by
    rcases N with _ | k
    · exact .inl rfl
    · exact .inr ⟨k, rfl, by omega⟩
  have SR := Lib.hid ((HO.out.src encL_is).kept (new_alloc (new_refl w) (.cells #[] 46)))
  have OE : Hid (OwnC21 (w.alloc (.cells #[] 46)) w.heap.size (.slice (some ⟨w.heap.size, 0, none⟩) 0 0) []) := Lib.hid (own_emptyP w _ (Nat.le_refl _))
  have L1 : Hid (([] : List Lc).length + zs.length ≤ 1000000000) := Lib.hid (by rw [HN.out]; simp; omega)
  have L2 : Hid (([] ++ zs : List Lc).length + 1 = N + 1) := Lib.hid (by rw [List.nil_append, HN.out])
  have L3 : Hid (N + 1 ≤ 1000000000) := Lib.hid (by omega)
  rw [HN.out] at SR
  have B1 := Lib.hid (new_alloc (new_refl w) (.cells #[] 46))
  have hb1 := B1.out.size
  rcases hcase with h0 | ⟨k, hk, h1⟩
  case' inl =>
    subst h0
    have e := HQ.out HN.out
    subst e
    clear HO HN HQ HS NR hl
    go_upto_region 4 with fail
  case' inr =>
    subst hk
    have e := HS.out k HN.out
    have ho := HO.out
    obtain ⟨g, e2⟩ : ∃ g, A = some ⟨g, 0, none⟩ := by
      rcases ho.form with ⟨_, e3⟩ | ⟨g, c', e2⟩
      · have := HN.out
        rw [e3] at this
        simp at this
      · simp only [Value.slice.injEq] at e2
        exact ⟨g, e2.1⟩
    subst e2
    obtain ⟨t0, _⟩ := own_two (by have := ho; rw [HN.out] at this; exact this) (i := k) (by rw [HN.out]; omega)
    generalize nthC zs k = z at *
    have k0 : (0 : Int) ≤ (k : Int) := by omega
    have k1 : (k : Int) < (k : Int) + 1 := by omega
    have k2 : ((k + 1 : Nat) : Int) = (k : Int) + 1 := by omega
    have k3 : (0 : Int) < (k : Int) + 1 := by omega
    have k4 : (k : Int) ≤ 1000000 := by omega
    rcases h1 with h1 | h1
  case' inr.inl =>
    have e3 : R = z.a := by omega
    subst e3
    clear HO HN HQ HS NR hl ho e
    go_upto_region 4 with fail
  case' inr.inr =>
    have e3 : R = q := by omega
    subst e3
    clear HO HN HQ HS NR hl ho e
    go_upto_region 4 with fail
  all_goals
    go_wp2_with (first
      | (at_builtin; refine wp_catP encL_is strC21 (o := ⟨some 32, _, _, _, _, _⟩) (by rfl) _ _ (by rfl) w.heap.size _ [] _ _ c zs (by rfl) (by rfl) SR.out OE.out L1.out hb1 ?_
         intro v3 w3 O3 G3 hat3
         have B3 := Lib.hid (B1.out.trans (below_pushE OE.out G3 hb1))
         have HO3 := Lib.hid O3
         have hb3 := B3.out.size
         clear O3 G3 hat3)
      | (at_builtin; refine wp_pushE encL_is strC21 (o := ⟨some 37, _, _, _, _, _⟩) (by rfl) _ _ (by rfl) w.heap.size v3 ([] ++ zs) ⟨_, x⟩ _ 1 (by rfl) (by rfl) (At.new w3 (encL ⟨_, x⟩) _) (OwnE.alloc HO3.out _) _ L2.out L3.out (alloc_le hb3 _) _ rfl ?_
         intro g4 c4 w4 O4 G4 hat4 hlt4
         have B4 := Lib.hid ((B3.out.alloc hb3 _).trans (below_pushE (OwnE.alloc HO3.out _) G4 (alloc_le hb3 _)))))
    go_ret
    exact ⟨_, rfl, by simpa using O4, B4.out⟩
end Go.Proofs.Ytphhcplellpikaa
