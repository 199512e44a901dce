/- Package option: Find (slices.IndexFunc, slices.Clone of uint32). -/
import Derived.Test.YtelohhjmhgiboaaOptI
namespace Go.Proofs.Ytelohhjmhgiboaa
open Go.RowKit
set_option linter.unusedVariables false

abbrev fFind (p : Nat) : Value := .func (.func 34) #[] #[.pointer (some ⟨p, 0, none⟩)]
theorem find_ask (p : Nat) (kind : Int) (x : OC) (w : World) (hp : Blk w p [.int .i64 kind] 3) :
    Calls Try.prog 34 #[.agg #[.int .i64 x.o.k, .slice x.a x.n x.c, .string x.o.s], .pointer (some ⟨p, 0, none⟩)] w fun e w' => e = .returned (.bool (x.o.k == kind)) ∧ Below w.heap.size w w' := by
  have c0 := fun o => (hp.alloc o).cell 0 rfl
  go_enter Try.func34, Try.ntmps34
  go_wp2
  go_ret
  exact ⟨rfl, new_alloc (new_refl w) _⟩
def FndI (w : World) (xs : List OC) (kind : Int) (n gh : Nat) (vi : Value) (wr : World) : Prop :=
  ∃ i : Nat, vi = .int .i64 (i : Int) ∧ n - i = gh ∧ i ≤ n ∧ (∀ j, j < i → (nthO xs j).o.k ≠ kind) ∧ Below w.heap.size w wr
/-- Where the first option of a kind stands. -/
def FndTo (w : World) (xs : List OC) (kind : Int) (n : Nat) (e : Ending) (w' : World) : Prop :=
  ((e = .returned (.int .i64 (-1)) ∧ ∀ i, i < n → (nthO xs i).o.k ≠ kind) ∨ ∃ i : Nat, e = .returned (.int .i64 (i : Int)) ∧ i < n ∧ (∀ j, j < i → (nthO xs j).o.k ≠ kind) ∧ (nthO xs i).o.k = kind) ∧ Below w.heap.size w w'
set_option maxRecDepth 100000 in
theorem indexO_any (A : Option Addr) (n c p : Nat) (kind : Int) (xs : List OC) (w : World) (hx : OptsAt w A n xs) (hp : Blk w p [.int .i64 kind] 3) (hn : n ≤ 1000) :
    Calls Try.prog 33 #[.slice A n c, fFind p] w (FndTo w xs kind n) := by
  have HX := Lib.hid hx
  have HP := Lib.hid hp
  clear hx hp
  go_enter Try.func33, Try.ntmps33
  go_wp2_with fail
  go_loopg [8] n (fun gh vi wr => FndI w xs kind n gh vi wr)
  case atStart => exact ⟨0, rfl, rfl, by omega, fun i hi => absurd hi (Nat.not_lt_zero _), new_refl w⟩
  case round =>
    obtain ⟨i, rfl, rfl, hi, ha, hB⟩ := hrel
    have HQ := Lib.hid ha
    clear ha
    by_cases hlt : i < n
    · have k0 : (0 : Int) ≤ (i : Int) := by omega
      have k1 : (i : Int) < (n : Int) := by omega
      obtain ⟨g, off, rfl, T0, h0, g0⟩ := HX.out.at hlt
      obtain ⟨c0, c1, c2⟩ := T0.kept hB
      have P1 := Lib.hid (HP.out.kept hB)
      clear T0 h0
      generalize hy : nthO xs i = x at *
      have HY := Lib.hid hy
      clear hy
      cases hq : x.o.k == kind
      · go_wp2_with (first
          | (go_at_call 34; refine (find_ask p kind x _ P1.out).mono ?_; rw [hq]; rintro e w1 ⟨rfl, B1⟩))
        go_roundg (n - (i + 1))
        case measure => omega
        case rel =>
          refine ⟨i + 1, by go_num, rfl, by omega, fun j hj => ?_, new_then hB B1⟩
          by_cases e : j = i
          · subst e; rw [HY.out]; simpa using hq
          · exact HQ.out j (by omega)
      · go_wp2_with (first
          | (go_at_call 34; refine (find_ask p kind x _ P1.out).mono ?_; rw [hq]; rintro e w1 ⟨rfl, B1⟩))
        go_ret
        exact ⟨.inr ⟨i, rfl, hlt, HQ.out, by rw [HY.out]; simpa using hq⟩, new_then hB B1⟩
    · obtain rfl : i = n := by omega
      go_wp2_with fail
      go_ret
      exact ⟨.inl ⟨rfl, HQ.out⟩, hB⟩

/-- A copy of an option's numbers. -/
def CloTo (w : World) (x : OC) (e : Ending) (w' : World) : Prop := ∃ A c, e = .returned (.slice A x.n c) ∧ HasO w' ⟨x.o, A, x.n, c⟩ ∧ Below w.heap.size w w'
theorem hasO_own {w : World} {base : Nat} {o : Opt} {A : Option Addr} {n c : Nat} (h : OwnN w base (.slice A n c) o.zs) (hu : ∀ z ∈ o.zs, 0 ≤ z ∧ z ≤ 4294967295) (hf : n ≤ 100) (hs : o.s.size ≤ 100) : HasO w ⟨o, A, n, c⟩ := by
  rcases h.form with ⟨e, hz⟩ | ⟨g, c', e⟩
  · simp at e
    obtain ⟨rfl, rfl, rfl⟩ := e
    exact ⟨by simp [hz], ⟨0, .inl hz⟩, hu, hf, hs, Nat.le_refl _⟩
  · simp at e
    obtain ⟨rfl, rfl, rfl⟩ := e
    obtain ⟨_, h2, _, _, _⟩ := h.blk
    exact ⟨rfl, ⟨g, own_ls h⟩, hu, hf, hs, h2⟩
theorem cloneN_any (x : OC) (w : World) (hx : HasO w x) : Calls Try.prog 35 #[.slice x.a x.n x.c] w (CloTo w x) := by
  obtain ⟨o, a, n, c⟩ := x
  have hq : ∀ (w : World) (a : Option Addr) (n c n' c' : Nat), (binOp .eql 37 (.slice a n c) (.slice none n' c')).run Try.prog w = .ok (.bool a.isNone) w := fun w a n c n' c' => Lib.run_eql_slice_nil w _ _ a n c n' c' Try.underlying37
  have hl : o.zs.length = n := hx.len
  have hu := Lib.hid hx.u32
  have hf : n ≤ 100 := hx.few
  have hs : o.s.size ≤ 100 := hx.txt
  cases a with
  | none =>
    have hz : o.zs = [] := by
      obtain ⟨g, h | ⟨off, e, _⟩⟩ := hx.ls
      · exact h
      · cases e
    obtain rfl : n = 0 := by rw [← hl, hz]; rfl
    have HZ := Lib.hid hz
    clear hx hl hz
    go_enter Try.func35, Try.ntmps35
    go_wp2_with fail
    go_ret
    exact ⟨none, 0, rfl, ⟨by simp [HZ.out], ⟨0, .inl HZ.out⟩, hu.out, hf, hs, Nat.le_refl _⟩, new_refl w⟩
  | some ad =>
    have HSr : Hid (Src .u32 w (some ad) n c o.zs) := Lib.hid ⟨hl.symm, .inr ⟨ad, rfl, fun j hj => by
      obtain ⟨g, h | ⟨off, e, h⟩⟩ := hx.ls
      · rw [h] at hj; simp at hj
      · cases e
        rw [Go.WideShapes.add_plain]
        exact h j hj⟩⟩
    have HL : Hid (([] : List Int).length + o.zs.length ≤ 1000000000) := Lib.hid (by simp; omega)
    have HLn := Lib.hid hl
    clear hx hl
    go_enter Try.func35, Try.ntmps35
    go_wp2_with (first
      | (at_builtin; refine wp_catK elN (by rfl) _ _ (by rfl) w.heap.size _ [] _ _ _ o.zs (by rfl) (by rfl) (HSr.out.kept (new_alloc (new_refl w) _)) (OwnK.made0 (Nat.le_refl _)) HL.out (alloc_le (Nat.le_refl _) _) ?_; intro v1 w1 O1 G1 hat1))
    go_ret
    have B1 := (new_alloc (new_refl w) _).trans (below_push (OwnK.made0 (k := .u32) (e := 59) (Nat.le_refl _)) G1 (alloc_le (Nat.le_refl _) _))
    have hn := HLn.out
    rcases O1.form with ⟨rfl, hz⟩ | ⟨g, c', rfl⟩
    · have e0 : n = 0 := by rw [← hn]; simpa using hz
      subst e0
      exact ⟨none, 0, rfl, hasO_own O1 hu.out hf hs, B1⟩
    · have e0 : ([] ++ o.zs).length = n := by simpa using hn
      rw [e0] at O1 ⊢
      exact ⟨_, c', rfl, hasO_own O1 hu.out hf hs, B1⟩
end Go.Proofs.Ytelohhjmhgiboaa
