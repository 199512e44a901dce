/- Options in memory; whether options are the same, a kind was there; how many bytes one has. -/
import Derived.Test.YtdibhpiafipibaaOptA
import Derived.Test.YtdibhpiafipibaaRowE
import Derived.BigQuiet
import Derived.Deep.QuietTactic
import Derived.Deep.CutBlock
import Derived.Deep.DeepCutAuto
namespace Go.Proofs.Ytdibhpiafipibaa
open Go.RowKit
set_option linter.unusedVariables false

/-- An option as its cells tell it: where its numbers lie, how many there are, and how many there is room for. -/
structure OC where
  o : Opt
  a : Option Addr
  n : Nat
  c : Nat
instance : Inhabited Opt := ⟨⟨0, [], ByteArray.empty⟩⟩
instance : Inhabited OC := ⟨⟨default, none, 0, 0⟩⟩
def encO (x : OC) : List Value := [.int .i64 x.o.k, .slice x.a x.n x.c, .string x.o.s]
theorem encO_is : IsEnc encO 3 := ⟨by decide, fun _ => rfl, fun x v hv => by simp [encO] at hv; rcases hv with rfl | rfl | rfl <;> rfl⟩
abbrev OwnO (w : World) (base : Nat) (v : Value) (xs : List OC) : Prop := OwnE encO 3 32 w base v xs
theorem elN : IsElem .u32 30 46 4 := ⟨by kernel_rfl, by kernel_rfl, by decide⟩
abbrev OwnN (w : World) (base : Nat) (v : Value) (zs : List Int) : Prop := OwnK .u32 46 w base v zs
/-- Its numbers lie where it says. -/
structure HasO (w : World) (x : OC) : Prop where
  len : x.o.zs.length = x.n
  ls : ∃ g, LsK .u32 w g x.a x.o.zs
  u32 : ∀ z ∈ x.o.zs, 0 ≤ z ∧ z ≤ 4294967295
  few : x.n ≤ 100
  txt : x.o.s.size ≤ 100
  room : x.n ≤ x.c
theorem HasO.kept {w w' : World} {x : OC} (h : HasO w x) (b : Below w.heap.size w w') : HasO w' x := ⟨h.len, h.ls.imp fun g l => l.kept b, h.u32, h.few, h.txt, h.room⟩
theorem HasO.drew {w : World} {x : OC} (h : HasO w x) (n : Nat) : HasO (w.drewN n) x := ⟨h.len, h.ls, h.u32, h.few, h.txt, h.room⟩
theorem HasO.num {w : World} {x : OC} (h : HasO w x) {i : Nat} (hi : i < x.n) : ∃ g off, x.a = some ⟨g, off, none⟩ ∧ w.cell? ⟨g, off + i, none⟩ = some (.int .u32 (bF x.o.zs i)) ∧ 0 ≤ bF x.o.zs i ∧ bF x.o.zs i ≤ 4294967295 ∧ g < w.heap.size := by
  obtain ⟨g, l⟩ := h.ls
  have hl := h.len
  rcases l with l | ⟨off, e, l⟩
  · rw [l] at hl; simp at hl; omega
  · have hc := l i (by omega)
    refine ⟨g, off, e, hc, ?_, ?_, World.block_lt_of_cell? w _ hc⟩
    · exact (h.u32 (bF x.o.zs i) (by rw [bF, List.getElem?_eq_getElem (by omega)]; exact List.getElem_mem _)).1
    · exact (h.u32 (bF x.o.zs i) (by rw [bF, List.getElem?_eq_getElem (by omega)]; exact List.getElem_mem _)).2
/-- The three cells of an option. -/
def Thr (w : World) (g o : Nat) (x : OC) : Prop := w.cell? ⟨g, o, none⟩ = some (.int .i64 x.o.k) ∧ w.cell? ⟨g, o + 1, none⟩ = some (.slice x.a x.n x.c) ∧ w.cell? ⟨g, o + 2, none⟩ = some (.string x.o.s)
theorem Thr.kept {w w' : World} {g o : Nat} {x : OC} (h : Thr w g o x) (b : Below w.heap.size w w') : Thr w' g o x := ⟨cell_kept b h.1, cell_kept b h.2.1, cell_kept b h.2.2⟩
theorem three_kept {W w1 : World} {p q r : Addr} {a b c : Value} (hb : Below W.heap.size W w1) (h : W.cell? p = some a ∧ W.cell? q = some b ∧ W.cell? r = some c) : w1.cell? p = some a ∧ w1.cell? q = some b ∧ w1.cell? r = some c := ⟨cell_kept hb h.1, cell_kept hb h.2.1, cell_kept hb h.2.2⟩
theorem six_kept {W w1 : World} {p q r p' q' r' : Addr} {a b c a' b' c' : Value} (hb : Below W.heap.size W w1) (h : W.cell? p = some a ∧ W.cell? q = some b ∧ W.cell? r = some c ∧ W.cell? p' = some a' ∧ W.cell? q' = some b' ∧ W.cell? r' = some c') : w1.cell? p = some a ∧ w1.cell? q = some b ∧ w1.cell? r = some c ∧ w1.cell? p' = some a' ∧ w1.cell? q' = some b' ∧ w1.cell? r' = some c' :=
  ⟨cell_kept hb h.1, cell_kept hb h.2.1, cell_kept hb h.2.2.1, cell_kept hb h.2.2.2.1, cell_kept hb h.2.2.2.2.1, cell_kept hb h.2.2.2.2.2⟩
def nthO (xs : List OC) (i : Nat) : OC := xs[i]?.getD default
theorem nthO_eq {xs : List OC} {i : Nat} (h : i < xs.length) : nthO xs i = xs[i] := by simp [nthO, List.getElem?_eq_getElem h]
theorem nthO_mem {xs : List OC} {i : Nat} (h : i < xs.length) : nthO xs i ∈ xs := by rw [nthO_eq h]; exact List.getElem_mem _
theorem nthO_take {xs : List OC} {k i : Nat} (h : i < k) : nthO (xs.take k) i = nthO xs i := by simp [nthO, h]
/-- Options that are only read: none, or they lie in block g from some place on. -/
def LsO (w : World) (g : Nat) (A : Option Addr) (xs : List OC) : Prop := xs = [] ∨ ∃ off, A = some ⟨g, off, none⟩ ∧ ∀ i, i < xs.length → Thr w g (off + i * 3) (nthO xs i)
theorem LsO.kept {w w' : World} {g : Nat} {A : Option Addr} {xs : List OC} (h : LsO w g A xs) (b : Below w.heap.size w w') : LsO w' g A xs := by
  rcases h with h | ⟨off, e, h⟩
  · exact .inl h
  · exact .inr ⟨off, e, fun i hi => (h i hi).kept b⟩
theorem LsO.take {w : World} {g : Nat} {A : Option Addr} {xs : List OC} (h : LsO w g A xs) (n : Nat) : LsO w g A (xs.take n) := by
  rcases h with rfl | ⟨off, e, h⟩
  · exact .inl (by simp)
  · refine .inr ⟨off, e, fun i hi => ?_⟩
    rw [List.length_take] at hi
    rw [nthO_take (by omega)]
    exact h i (by omega)
/-- .. each with its numbers. -/
structure OptsAt (w : World) (A : Option Addr) (L : Nat) (xs : List OC) : Prop where
  ls : ∃ g, LsO w g A xs
  len : xs.length = L
  has : ∀ x ∈ xs, HasO w x
theorem OptsAt.kept {w w' : World} {A : Option Addr} {L : Nat} {xs : List OC} (h : OptsAt w A L xs) (b : Below w.heap.size w w') : OptsAt w' A L xs := ⟨h.ls.imp fun g l => l.kept b, h.len, fun x hx => (h.has x hx).kept b⟩
theorem OptsAt.drew {w : World} {A : Option Addr} {L : Nat} {xs : List OC} (h : OptsAt w A L xs) (n : Nat) : OptsAt (w.drewN n) A L xs := ⟨h.ls, h.len, fun x hx => (h.has x hx).drew n⟩
theorem OptsAt.at {w : World} {A : Option Addr} {L : Nat} {xs : List OC} (h : OptsAt w A L xs) {i : Nat} (hi : i < L) : ∃ g off, A = some ⟨g, off, none⟩ ∧ Thr w g (off + i * 3) (nthO xs i) ∧ HasO w (nthO xs i) ∧ g < w.heap.size := by
  obtain ⟨g, l⟩ := h.ls
  have hl := h.len
  rcases l with rfl | ⟨off, e, l⟩
  · simp at hl; omega
  · have ht := l i (by omega)
    exact ⟨g, off, e, ht, h.has _ (nthO_mem (by omega)), World.block_lt_of_cell? w _ ht.1⟩
theorem OptsAt.take {w : World} {A : Option Addr} {L : Nat} {xs : List OC} (h : OptsAt w A L xs) {k : Nat} (hk : k ≤ L) : OptsAt w A k (xs.take k) :=
  ⟨h.ls.imp fun g l => l.take k, by rw [List.length_take, h.len]; omega, fun x hx => h.has x (List.mem_of_mem_take hx)⟩
theorem opts_none (w : World) (A : Option Addr) : OptsAt w A 0 [] := ⟨⟨0, .inl rfl⟩, rfl, fun x hx => by cases hx⟩
theorem own_thr {w : World} {base g n c : Nat} {xs : List OC} (h : OwnO w base (.slice (some ⟨g, 0, none⟩) n c) xs) {i : Nat} (hi : i < xs.length) : Thr w g (0 + i * 3) (nthO xs i) := by
  rw [nthO_eq hi, Nat.zero_add]
  exact ⟨h.cells encO_is hi (j := 0) rfl, h.cells encO_is hi (j := 1) rfl, h.cells encO_is hi (j := 2) rfl⟩
/-- A list of the call's own may be read. -/
theorem own_opts {w : World} {base : Nat} {A : Option Addr} {n c : Nat} {xs : List OC} (h : OwnO w base (.slice A n c) xs) (hx : ∀ x ∈ xs, HasO w x) : OptsAt w A n xs := by
  rcases h.form with ⟨e, rfl⟩ | ⟨g, cap, e⟩
  · simp at e
    obtain ⟨rfl, rfl, rfl⟩ := e
    exact opts_none w none
  · simp at e
    obtain ⟨rfl, rfl, rfl⟩ := e
    exact ⟨⟨g, .inr ⟨0, rfl, fun i hi => own_thr h hi⟩⟩, rfl, hx⟩

def SameI (W : World) (n gh : Nat) (vi : Value) (wr : World) : Prop := ∃ k m : Nat, vi = .int .i64 (k : Int) ∧ n - k = gh ∧ k ≤ n ∧ wr = W.drewN m
set_option maxRecDepth 100000 in
set_option maxHeartbeats 1000000 in
theorem same_any (x y : OC) (w : World) (hx : HasO w x) (hy : HasO w y) (h : x.o = y.o) :
    Calls Try.prog 16 #[.agg #[.int .i64 x.o.k, .slice x.a x.n x.c, .string x.o.s], .agg #[.int .i64 y.o.k, .slice y.a y.n y.c, .string y.o.s]] w fun e w' => e = .returned (.bool true) ∧ Below w.heap.size w w' := by
  obtain ⟨o, a, n, c⟩ := x
  obtain ⟨o', b, m, d⟩ := y
  obtain rfl : o = o' := h
  obtain rfl : n = m := hx.len.symm.trans hy.len
  have A1 := (At.new w [.int .i64 o.k, .slice a n c, .string o.s] 32).alloc (.cells #[.int .i64 o.k, .slice b n d, .string o.s] 32)
  have A2 := At.newAt (alloc_size w (.cells #[.int .i64 o.k, .slice a n c, .string o.s] 32)) [.int .i64 o.k, .slice b n d, .string o.s] 32
  have L0 := new_alloc (new_alloc (new_refl w) (.cells #[.int .i64 o.k, .slice a n c, .string o.s] 32)) (.cells #[.int .i64 o.k, .slice b n d, .string o.s] 32)
  have hn := hx.few
  have HX := Lib.hid (hx.kept L0)
  have HY := Lib.hid (hy.kept L0)
  have a1 := A1.cell 1 rfl
  have b1 := A2.cell 1 rfl
  clear hx hy
  generalize hW : (w.alloc (.cells #[.int .i64 o.k, .slice a n c, .string o.s] 32)).alloc (.cells #[.int .i64 o.k, .slice b n d, .string o.s] 32) = W at *
  have HW := Lib.hid hW
  clear A1 A2 hW
  go_enter Try.func16, Try.ntmps16
  go_wp2_with fail
  have hW := HW.out
  simp only [hW]
  go_loopg [5] n (fun gh vi wr => SameI W n gh vi wr)
  case atStart => exact ⟨0, 0, rfl, rfl, by omega, rfl⟩
  case round =>
    obtain ⟨k, q, rfl, rfl, hk, rfl⟩ := hrel
    clear hW
    by_cases hlt : k < n
    · have k0 : (0 : Int) ≤ (k : Int) := by omega
      have k1 : (k : Int) < (n : Int) := by omega
      obtain ⟨g, off, rfl, c0, x0, x1, _⟩ := HX.out.num (i := k) hlt
      obtain ⟨g', off', rfl, c0', _, _, _⟩ := HY.out.num (i := k) hlt
      generalize bF o.zs k = z at c0 c0' x0 x1
      go_wp2_with fail
      go_quiet (fail)
      go_wp2_with fail
      go_roundg (n - (k + 1))
      case measure => omega
      case rel => exact ⟨k + 1, _, by go_num, rfl, by omega, rfl⟩
    · obtain rfl : k = n := by omega
      go_wp2_with fail
      go_ret
      exact ⟨rfl, new_draw L0 _⟩
end Go.Proofs.Ytdibhpiafipibaa
