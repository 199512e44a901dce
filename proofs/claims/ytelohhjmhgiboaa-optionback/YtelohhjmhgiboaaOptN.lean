/- Package option: Find. -/
import Derived.Test.YtelohhjmhgiboaaOptL
namespace Go.Proofs.Ytelohhjmhgiboaa
open Go.RowKit
set_option linter.unusedVariables false

theorem idx_no (A : Option Addr) (n c p : Nat) (kind : Int) (xs : List OC) (w : World) (hx : OptsAt w A n xs) (hp : Blk w p [.int .i64 kind] 3) (hn : n ≤ 1000) (h : ∀ i, i < n → (nthO xs i).o.k ≠ kind) :
    Calls Try.prog 33 #[.slice A n c, fFind p] w fun e w' => e = .returned (.int .i64 (-1)) ∧ Below w.heap.size w w' :=
  (indexO_any A n c p kind xs w hx hp hn).mono fun e w' ⟨hr, B⟩ => by
    rcases hr with ⟨rfl, _⟩ | ⟨i, rfl, hi, _, hk⟩
    · exact ⟨rfl, B⟩
    · exact absurd hk (h i hi)
theorem idx_yes (A : Option Addr) (n c p : Nat) (kind : Int) (xs : List OC) (w : World) (hx : OptsAt w A n xs) (hp : Blk w p [.int .i64 kind] 3) (hn : n ≤ 1000) (i : Nat) (hi : i < n) (h : ∀ j, j < i → (nthO xs j).o.k ≠ kind) (hk : (nthO xs i).o.k = kind) :
    Calls Try.prog 33 #[.slice A n c, fFind p] w fun e w' => e = .returned (.int .i64 (i : Int)) ∧ Below w.heap.size w w' :=
  (indexO_any A n c p kind xs w hx hp hn).mono fun e w' ⟨hr, B⟩ => by
    rcases hr with ⟨rfl, h0⟩ | ⟨i', rfl, hi', h', hk'⟩
    · exact absurd hk (h0 i hi)
    · rcases Nat.lt_trichotomy i i' with e | e | e
      · exact absurd hk (h' i e)
      · subst e; exact ⟨rfl, B⟩
      · exact absurd hk' (h i' e)
theorem new_set3 {a w : World} (h : Below a.heap.size a w) {g : Nat} (hg : a.heap.size ≤ g) (u v x : Value) : Below a.heap.size a (((w.setCell ⟨g, 0, none⟩ u).setCell ⟨g, 1, none⟩ v).setCell ⟨g, 2, none⟩ x) :=
  new_set (new_set (new_set h (p := ⟨g, 0, none⟩) hg u) (p := ⟨g, 1, none⟩) hg v) (p := ⟨g, 2, none⟩) hg x
/-- Numbers lie in no block that holds something else. -/
theorem LsK.apart {k : IntKind} {w : World} {g p : Nat} {A : Option Addr} {zs : List Int} {vs : List Value} {t : TypeId} (h : LsK k w g A zs) (hb : Blk w p vs t) (hv : ∀ v ∈ vs, ∀ z, v ≠ .int k z) (j : Nat) (u : Value) : LsK k (w.setCell ⟨p, j, none⟩ u) g A zs := by
  rcases h with h | ⟨off, e, h⟩
  · exact .inl h
  · refine .inr ⟨off, e, fun i hi => ?_⟩
    have h1 := h i hi
    rw [World.cell?_setCell_other _ _ _ _ ?_]
    · exact h1
    · intro he
      cases he
      rw [cell_of_row w _ _ _ t _ hb] at h1
      have h2 : vs[off + i]? = some (.int k (zs[i]?.getD 0)) := by simpa using h1
      exact hv _ (List.mem_of_getElem? h2) _ rfl
theorem HasO.apart {w : World} {p : Nat} {x : OC} {vs : List Value} {t : TypeId} (h : HasO w x) (hb : Blk w p vs t) (hv : ∀ v ∈ vs, ∀ z, v ≠ .int .u32 z) (j : Nat) (u : Value) : HasO (w.setCell ⟨p, j, none⟩ u) x :=
  ⟨h.len, h.ls.imp fun g l => l.apart hb hv j u, h.u32, h.few, h.txt, h.room⟩
theorem noU3 (a : Int) (A : Option Addr) (n c : Nat) (s : ByteArray) : ∀ v ∈ [Value.int .i64 a, .slice A n c, .string s], ∀ z, v ≠ .int .u32 z := by
  intro v hv z
  simp at hv
  rcases hv with rfl | rfl | rfl <;> simp
theorem HasO.apart3 {w : World} {p : Nat} {x : OC} {a b : Int} {A B : Option Addr} {n c m d : Nat} {s s' : ByteArray} {t : TypeId} (h : HasO w x) (hb : Blk w p [.int .i64 a, .slice A n c, .string s] t) : HasO (((w.setCell ⟨p, 0, none⟩ (.int .i64 b)).setCell ⟨p, 1, none⟩ (.slice B m d)).setCell ⟨p, 2, none⟩ (.string s')) x :=
  ((h.apart hb (noU3 _ _ _ _ _) 0 _).apart (hb.set 0 (.int .i64 b)) (noU3 _ _ _ _ _) 1 _).apart ((hb.set 0 (.int .i64 b)).set 1 (.slice B m d)) (noU3 _ _ _ _ _) 2 _
/-- An option that was found: its numbers lie in a list of their own. -/
def FindTo (w : World) (x : OC) (e : Ending) (w' : World) : Prop :=
  ∃ A c, e = .returned (.tuple #[.agg #[.int .i64 x.o.k, .slice A x.n c, .string x.o.s], .bool true]) ∧ HasO w' ⟨x.o, A, x.n, c⟩ ∧ Below w.heap.size w w'
set_option maxRecDepth 100000 in
theorem find_no (A : Option Addr) (n c : Nat) (kind : Int) (xs : List OC) (w : World) (hx : OptsAt w A n xs) (hn : n ≤ 1000) (h : ∀ i, i < n → (nthO xs i).o.k ≠ kind) :
    Calls Try.prog 14 #[.slice A n c, .int .i64 kind] w fun e w' => e = .returned (.tuple #[.agg #[.int .i64 0, .slice none 0 0, .string ByteArray.empty], .bool false]) ∧ Below w.heap.size w w' := by
  have hmf : ∀ (fn : Fn) (first cap : Array Value) (w : World), (Instr.makeFunc fn first cap).run Try.prog w = .ok (.func fn first cap) w := fun _ _ _ _ => rfl
  have A1 := Lib.hid ((Blk.new w [.int .i64 kind] 3).alloc (.cells #[.int .i64 0, .slice none 0 0, .string ByteArray.empty] 39))
  have R1 := Lib.hid (Blk.newAt (alloc_size w (.cells #[.int .i64 kind] 3)) [.int .i64 0, .slice none 0 0, .string ByteArray.empty] 39)
  have L1 := new_alloc (new_alloc (new_refl w) (.cells #[.int .i64 kind] 3)) (.cells #[.int .i64 0, .slice none 0 0, .string ByteArray.empty] 39)
  have HX := Lib.hid (hx.kept L1)
  have HH := Lib.hid h
  clear hx h
  go_enter Try.func14, Try.ntmps14
  go_wp2_with (first
    | (go_at_call 33; refine (idx_no A n c w.heap.size kind xs _ HX.out A1.out hn HH.out).mono ?_; rintro e w1 ⟨rfl, B1⟩
       have R2 := R1.out.kept B1
       have r0 := R2.cell 0 rfl
       have r1 := R2.cell 1 rfl
       have r2 := R2.cell 2 rfl
       have f0 := R2.frozen 0
       have f1 := R2.frozen 1
       have f2 := R2.frozen 2))
  exact bodyPost_ret (v := .tuple #[.agg #[.int .i64 0, .slice none 0 0, .string ByteArray.empty], .bool false]) (by simp [results, Try.results14, go_sem, r0, r1, r2]; rfl) rfl ⟨rfl, new_set3 (new_then L1 B1) (Nat.le_succ _) _ _ _⟩
set_option maxRecDepth 100000 in
theorem find_yes (A : Option Addr) (n c : Nat) (kind : Int) (xs : List OC) (w : World) (hx : OptsAt w A n xs) (hn : n ≤ 1000) (i : Nat) (hi : i < n) (h : ∀ j, j < i → (nthO xs j).o.k ≠ kind) (hk : (nthO xs i).o.k = kind) :
    Calls Try.prog 14 #[.slice A n c, .int .i64 kind] w (FindTo w (nthO xs i)) := by
  have hmf : ∀ (fn : Fn) (first cap : Array Value) (w : World), (Instr.makeFunc fn first cap).run Try.prog w = .ok (.func fn first cap) w := fun _ _ _ _ => rfl
  have A1 := Lib.hid ((Blk.new w [.int .i64 kind] 3).alloc (.cells #[.int .i64 0, .slice none 0 0, .string ByteArray.empty] 39))
  have R1 := Lib.hid (Blk.newAt (alloc_size w (.cells #[.int .i64 kind] 3)) [.int .i64 0, .slice none 0 0, .string ByteArray.empty] 39)
  have L1 := new_alloc (new_alloc (new_refl w) (.cells #[.int .i64 kind] 3)) (.cells #[.int .i64 0, .slice none 0 0, .string ByteArray.empty] 39)
  have HX := Lib.hid (hx.kept L1)
  have HI := Lib.hid (fun W hW hp => idx_yes A n c w.heap.size kind xs W hW hp hn i hi h hk)
  obtain ⟨g, off, rfl, T0, h0, g0⟩ := hx.at hi
  have H0 := Lib.hid h0
  have HT := Lib.hid T0
  clear hx h hk h0 T0
  generalize nthO xs i = x at *
  have k0 : (0 : Int) ≤ (i : Int) := by omega
  have k1 : (i : Int) < (n : Int) := by omega
  go_enter Try.func14, Try.ntmps14
  go_upto_region 4 with (first
    | (go_at_call 33; refine (HI.out _ HX.out A1.out).mono ?_; rintro e w1 ⟨rfl, B1⟩))
  have R2 := Lib.hid (R1.out.kept B1)
  have L2 := new_then L1 B1
  have hsz : w.heap.size + 1 < w1.heap.size := R2.out.lt
  obtain ⟨c0, c1, c2⟩ := HT.out.kept L2
  clear B1 L1 HX A1 R1 HI
  have O2 := Lib.hid (Blk.new w1 [.int .i64 x.o.k, .slice x.a x.n x.c, .string x.o.s] 39)
  have L3 := new_alloc L2 (.cells #[.int .i64 x.o.k, .slice x.a x.n x.c, .string x.o.s] 39)
  have L3' := new_alloc (new_refl w1) (.cells #[.int .i64 x.o.k, .slice x.a x.n x.c, .string x.o.s] 39)
  go_wp2_with (first
    | (go_at_call 35; refine (cloneN_any x _ (H0.out.kept L3)).mono ?_; rintro e w2 ⟨A4, c4, rfl, H4, B4⟩
       have O4 := O2.out.kept B4
       have R4 := R2.out.kept (new_then L3' B4)
       have n1 : w1.heap.size ≠ w.heap.size + 1 := by omega
       have n2 : w.heap.size + 1 ≠ w1.heap.size := by omega
       have r0 := R4.cell 0 rfl
       have r1 := R4.cell 1 rfl
       have r2 := R4.cell 2 rfl
       have f0 := R4.frozen 0
       have f1 := R4.frozen 1
       have f2 := R4.frozen 2
       have o0 := O4.cell 0 rfl
       have o1 := O4.cell 1 rfl
       have o2 := O4.cell 2 rfl
       have p1 := O4.frozen 1))
  have H5 := (H4.apart O4 (noU3 _ _ _ _ _) 1 (.slice A4 x.n c4)).apart3 (b := x.o.k) (B := A4) (m := x.n) (d := c4) (s' := x.o.s) (R4.far (p := ⟨w1.heap.size, 1, none⟩) n2 (.slice A4 x.n c4))
  exact bodyPost_ret (v := .tuple #[.agg #[.int .i64 x.o.k, .slice A4 x.n c4, .string x.o.s], .bool true]) (by simp [results, Try.results14, go_sem, r0, r1, r2]) rfl
    ⟨A4, c4, rfl, H5, new_set3 (new_set (p := ⟨w1.heap.size, 1, none⟩) (new_then L3 B4) (Nat.le_trans (Nat.le_succ _) (Nat.le_of_lt hsz)) _) (Nat.le_succ _) _ _ _⟩
end Go.Proofs.Ytelohhjmhgiboaa
