/- For every number and every list of pushes and pops, a row of at most so many items answers each of the first sixty as the document's own list does, and has its items behind each: RingPlays returns true and changes nothing that was there. No conditions. -/
import Derived.Test.YtamcakckbabeiaaKit
import Derived.Test.YtamcakckbabeiaaWorks05
import Derived.Test.YtamcakckbabeiaaLaw05
namespace Go.Proofs.Ytamcakckbabeiaa
namespace ringPlays
open Go.ChangeShapes Go.WideShapes Go.ChangeAt Go.RowKit
open Go.ChangeMaps (open_string shut_string)
set_option linter.unusedVariables false

/-- A row and a list (in the variable at block vb) that hold the same. -/
def PA (w : World) (b vb M gr : Nat) (zs : List Int) (g : Nat) (A : Option Addr) (c : Nat) (wr : World) : Prop := R8.IsRing wr b gr zs M ∧ Blk wr vb [.slice A zs.length c, .int .i64 (M : Int)] 27 ∧ Lst wr g A zs ∧ (A = none → c = 0) ∧ zs.length ≤ c ∧
  (zs ≠ [] → g ≠ b ∧ g ≠ gr ∧ g ≠ vb) ∧ vb ≠ b ∧ vb ≠ gr ∧ w.heap.size ≤ gr ∧ Below w.heap.size w wr
def PlaysAt (w : World) (b vb M : Nat) (wr : World) : Prop := ∃ gr zs g A c, PA w b vb M gr zs g A c wr
theorem PA.kept {w wr w6 : World} {b vb M gr g c : Nat} {zs : List Int} {A : Option Addr} (h : PA w b vb M gr zs g A c wr) (B : Below wr.heap.size wr w6) : PA w b vb M gr zs g A c w6 := by
  obtain ⟨R, V, Ls, hA, hc, hg, hb1, hb2, hgr, Bl⟩ := h
  exact ⟨R.kept B, V.kept B, Ls.kept B, hA, hc, hg, hb1, hb2, hgr, new_then Bl B⟩
theorem PA.draw {w wr : World} {b vb M gr g c : Nat} {zs : List Int} {A : Option Addr} (h : PA w b vb M gr zs g A c wr) (m : Nat) : PA w b vb M gr zs g A c (wr.drewN m) := h.kept (new_draw (new_refl wr) m)
theorem PA.v0 {w wr : World} {b vb M gr g c L : Nat} {zs : List Int} {A : Option Addr} (h : PA w b vb M gr zs g A c wr) (hL : zs.length = L) : wr.cell? ⟨vb, 0, none⟩ = some (.slice A L c) := by
  subst hL; exact h.2.1.cell 0 rfl
theorem PA.v1 {w wr : World} {b vb M gr g c : Nat} {zs : List Int} {A : Option Addr} (h : PA w b vb M gr zs g A c wr) : wr.cell? ⟨vb, 1, none⟩ = some (.int .i64 (M : Int)) := h.2.1.cell 1 rfl
theorem PA.same {w wr : World} {b vb M gr g c L : Nat} {zs : List Int} {A : Option Addr} {m : Value} (h : PA w b vb M gr zs g A c wr) (hL : zs.length = L) :
    Calls Try.prog 12 #[.pointer (some ⟨b, 0, none⟩), .agg #[.slice A L c, m]] wr fun e w' => e = .returned (.bool true) ∧ Below wr.heap.size wr w' := by
  obtain ⟨R, V, Ls, hA, hc, hg, hb1, hb2, hgr, Bl⟩ := h
  subst hL
  have hm := R.le
  exact same5_any b gr M g c A zs m _ R Ls (by omega)
def PlaysInv (w : World) (b vb M len gh : Nat) (vi : Value) (wr : World) : Prop := ∃ k : Nat, k ≤ len ∧ gh = len - k ∧ vi = .int .i64 (k : Int) ∧ PlaysAt w b vb M wr
theorem plays_start {w w1 w2 : World} {M : Nat} (RR : R8.IsRing w1 w.heap.size w.heap.size [] M) (B1 : Below w.heap.size w w1) (B2 : Below w1.heap.size w1 w2) :
    PlaysAt w w.heap.size w2.heap.size M (w2.alloc (.cells #[.slice none 0 0, .int .i64 (M : Int)] 27)) := by
  have h1 := RR.lt.1
  have h2 := B2.size
  exact ⟨w.heap.size, [], 0, none, 0, (RR.kept B2).kept (new_alloc (new_refl w2) _), Blk.new w2 [.slice none 0 0, .int .i64 (M : Int)] _, .inl rfl, fun _ => rfl, Nat.le_refl _, fun h => absurd rfl h, by omega, by omega, Nat.le_refl _,
    (B1.trans (B2.mono (by omega))).alloc (by omega) _⟩
theorem not_foot {b g k : Nat} (h1 : k ≠ b) (h2 : k ≠ g) : ¬ R8.foot b g k := fun h => h.elim h1 h2
theorem out_var {w : World} {vb : Nat} {o : Obj} {u v : Value} : Out (fun k => k = vb) w (((w.setCell ⟨vb, 0, none⟩ u).setCell ⟨vb, 1, none⟩ v).alloc o) :=
  Out.alloc (Out.set (p := ⟨vb, 1, none⟩) (Out.set (p := ⟨vb, 0, none⟩) (Out.refl (fun k => k = vb) w) (.inl rfl) u) (.inl rfl) v) o
/-- All that is known ahead of the last store into the variable. -/
def Ahead (w : World) (b vb M gr : Nat) (zs : List Int) (g : Nat) (A : Option Addr) (c : Nat) (w4 : World) : Prop :=
  R8.IsRing w4 b gr zs M ∧ Lst w4 g A zs ∧ (A = none → c = 0) ∧ zs.length ≤ c ∧ (zs ≠ [] → g ≠ b ∧ g ≠ gr ∧ g ≠ vb) ∧ vb ≠ b ∧ vb ≠ gr ∧ w.heap.size ≤ gr ∧ w.heap.size ≤ vb ∧ Below w.heap.size w w4
theorem same_at {w w4 : World} {b vb M gr g c L : Nat} {zs : List Int} {A : Option Addr} {o : Obj} {u v m : Value} (h : Ahead w b vb M gr zs g A c w4) (hL : zs.length = L) :
    Calls Try.prog 12 #[.pointer (some ⟨b, 0, none⟩), .agg #[.slice A L c, m]] (((w4.setCell ⟨vb, 0, none⟩ u).setCell ⟨vb, 1, none⟩ v).alloc o) fun e w' => e = .returned (.bool true) ∧ Below (((w4.setCell ⟨vb, 0, none⟩ u).setCell ⟨vb, 1, none⟩ v).alloc o).heap.size (((w4.setCell ⟨vb, 0, none⟩ u).setCell ⟨vb, 1, none⟩ v).alloc o) w' := by
  obtain ⟨R, Ls, hA, hc, hg, hb1, hb2, hgr, hvw, Bl⟩ := h
  subst hL
  have hm := R.le
  exact same5_any b gr M g c A zs m _ (R.out out_var (fun e => hb1 e.symm) (fun e => hb2 e.symm)) (Ls.outs out_var fun e => (hg e).2.2) (by omega)
theorem pa_ahead {w w4 : World} {b vb M gr g c L : Nat} {zs : List Int} {A : Option Addr} {o : Obj} {p q : Value} (h : Ahead w b vb M gr zs g A c w4) (V : Blk w4 vb [p, q] 27) (hL : zs.length = L) :
    PA w b vb M gr zs g A c (((w4.setCell ⟨vb, 0, none⟩ (.slice A L c)).setCell ⟨vb, 1, none⟩ (.int .i64 (M : Int))).alloc o) := by
  subst hL
  obtain ⟨R, Ls, hA, hc, hg, hb1, hb2, hgr, hvw, Bl⟩ := h
  refine ⟨R.out out_var (fun e => hb1 e.symm) (fun e => hb2 e.symm), Blk.alloc ((V.set 0 _).set 1 _) o, Ls.outs out_var fun e => (hg e).2.2, hA, hc, hg, hb1, hb2, hgr, ?_⟩
  have o4 := out_var (w := w4) (vb := vb) (o := o) (u := .slice A zs.length c) (v := .int .i64 (M : Int))
  have s4 := Bl.size
  exact Bl.trans (o4.below s4 (fun k hk => by subst hk; exact hvw))
theorem plays_next {w w4 w6 : World} {b vb M gr g c : Nat} {zs : List Int} {A : Option Addr} {o : Obj} {p q : Value} (h : Ahead w b vb M gr zs g A c w4) (V : Blk w4 vb [p, q] 27)
    (B : Below (((w4.setCell ⟨vb, 0, none⟩ (.slice A zs.length c)).setCell ⟨vb, 1, none⟩ (.int .i64 (M : Int))).alloc o).heap.size (((w4.setCell ⟨vb, 0, none⟩ (.slice A zs.length c)).setCell ⟨vb, 1, none⟩ (.int .i64 (M : Int))).alloc o) w6) : PlaysAt w b vb M w6 :=
  ⟨_, _, _, _, _, (pa_ahead h V rfl).kept B⟩
/-- The list, and one behind it, by a letter for its length. -/
def PushedL (w : World) (zs : List Int) (L m : Nat) (e : Ending) (w' : World) : Prop :=
  ∃ g c, e = .returned (.tuple #[.agg #[.slice (some ⟨g, 0, none⟩) (L + 1) c, .int .i64 (m : Int)], .int .i64 0]) ∧ w.heap.size ≤ g ∧ g < w'.heap.size ∧ Lst w' g (some ⟨g, 0, none⟩) zs ∧ zs.length ≤ c ∧ Below w.heap.size w w'
theorem push_at {w : World} {g c L M : Nat} {A : Option Addr} {zs : List Int} {x : Int} (hL : zs.length = L) (h : Lst w g A zs) (hA : A = none → c = 0) (hf : ¬ L = M) (hl : L ≤ 65536) :
    Calls Try.prog 10 #[.agg #[.slice A L c, .int .i64 (M : Int)], .int .i64 x] w (PushedL w (zs ++ [x]) L M) := by
  subst hL
  refine (refPush5_some g c M A x zs w h hA hf hl).mono fun e w' ⟨g1, c1, he, h1, h2, h3, h4, h5⟩ => ⟨g1, c1, ?_, h1, h2, h3, h4, h5⟩
  rw [he]; simp
theorem pa_push {w w1 w4 w5 : World} {b vb M gr gr5 g4 c4 L : Nat} {zs : List Int} {x : Int} {o : Obj} {p q : Value} (hL : zs.length = L) (Bl : Below w.heap.size w w1) (R1 : R8.IsRing w1 b gr zs M) (V1 : Blk w1 vb [p, q] 27) (B4 : Below w1.heap.size w1 w4)
    (L4 : Lst w4 g4 (some ⟨g4, 0, none⟩) (zs ++ [x])) (lg : w1.heap.size ≤ g4) (hc4 : (zs ++ [x]).length ≤ c4) (R5 : R8.IsRing w5 b gr5 (zs ++ [x]) M)
    (hg5 : gr5 = gr ∨ (((w4.setCell ⟨vb, 0, none⟩ (.slice (some ⟨g4, 0, none⟩) (L + 1) c4)).setCell ⟨vb, 1, none⟩ (.int .i64 (M : Int))).alloc o).heap.size ≤ gr5)
    (o5 : Out (R8.foot b gr) (((w4.setCell ⟨vb, 0, none⟩ (.slice (some ⟨g4, 0, none⟩) (L + 1) c4)).setCell ⟨vb, 1, none⟩ (.int .i64 (M : Int))).alloc o) w5)
    (hb1 : vb ≠ b) (hb2 : vb ≠ gr) (hgr : w.heap.size ≤ gr) (hvb : w.heap.size < vb) (hb : w.heap.size ≤ b) : PA w b vb M gr5 (zs ++ [x]) g4 (some ⟨g4, 0, none⟩) c4 w5 := by
  have l1 := R1.lt
  have l2 := V1.lt
  have l4 := L4.lt (by simp)
  have s1 := Bl.size
  have s4 := B4.size
  have o4 := out_var (w := w4) (vb := vb) (o := o) (u := .slice (some ⟨g4, 0, none⟩) (L + 1) c4) (v := .int .i64 (M : Int))
  have s5 := o4.size
  have hlen : ((zs ++ [x]).length) = L + 1 := by simp [hL]
  refine ⟨R5, ?_, (L4.out o4 (by omega)).out o5 (not_foot (by omega) (by omega)), fun h => by (cases h), hc4, fun _ => ⟨by omega, by omega, by omega⟩, hb1, by omega, by omega, ?_⟩
  · rw [hlen]
    exact Blk.out (Blk.alloc (((V1.kept B4).set 0 _).set 1 _) o) o5 (not_foot hb1 hb2)
  · exact ((new_then Bl B4).trans (o4.below (by omega) (fun k hk => by subst hk; omega))).trans (R8.foot_below o5 (by omega) hb hgr)
theorem ahead_none {w wr w4 : World} {b vb M gr g c : Nat} {A : Option Addr} {o : Obj} (Bl : Below w.heap.size w wr) (BA : Below wr.heap.size wr (wr.alloc o)) (m3 : Nat) (R1 : R8.IsRing (wr.alloc o) b gr [] M) (B4 : Below ((wr.alloc o).drewN m3).heap.size ((wr.alloc o).drewN m3) w4)
    (hA : A = none → c = 0) (hc : ([] : List Int).length ≤ c) (hb1 : vb ≠ b) (hb2 : vb ≠ gr) (hgr : w.heap.size ≤ gr) (hvb : w.heap.size < vb) : Ahead w b vb M gr [] g A c w4 :=
  ⟨R8.IsRing.kept (w := (wr.alloc o).drewN m3) R1 B4, .inl rfl, hA, hc, fun h => absurd rfl h, hb1, hb2, hgr, Nat.le_of_lt hvb, new_then Bl (new_then BA ⟨B4.os, B4.tape, B4.output, B4.size, B4.block⟩)⟩
theorem pop_at {g c L : Nat} {A : Option Addr} {z : Int} {ys : List Int} {m : Int} {w : World} (hL : ys.length = L) (h : Lst w g A (z :: ys)) (hl : ys.length + 1 ≤ c) :
    Calls Try.prog 9 #[.agg #[.slice A (L + 1) c, .int .i64 m]] w (Popped w g z ys c m) := by
  subst hL; exact refPop5_some g c A z ys m w h hl
theorem ahead_pop {w w1 w3 w4 : World} {b vb M gr gr3 g c : Nat} {ys : List Int} {a : Addr} (Bl : Below w.heap.size w w1) (R3 : R8.IsRing w3 b gr3 ys M) (hg3 : gr3 = gr ∨ w1.heap.size ≤ gr3) (o3 : Out (R8.foot b gr) w1 w3) (B4 : Below w3.heap.size w3 w4)
    (L4 : Lst w4 g (some a) ys) (lg : g < w1.heap.size) (lv : vb < w1.heap.size) (hg1 : g ≠ b) (hg2 : g ≠ gr) (hg : g ≠ vb) (hb1 : vb ≠ b) (hb2 : vb ≠ gr) (hgr : w.heap.size ≤ gr) (hvb : w.heap.size < vb) (hc : ys.length + 1 ≤ c) (hb : w.heap.size ≤ b) : Ahead w b vb M gr3 ys g (some a) (c - 1) w4 := by
  have s1 := Bl.size
  refine ⟨R3.kept B4, L4, fun h => by (cases h), by omega, fun _ => ⟨hg1, by omega, hg⟩, hb1, by omega, by omega, by omega, ?_⟩
  exact (Bl.trans (R8.foot_below o3 s1 hb hgr)).trans (B4.mono (Nat.le_trans s1 o3.size))
theorem ahead_full {w w1 w4 : World} {b vb M gr g c : Nat} {zs : List Int} {A : Option Addr} (Bl : Below w.heap.size w w1) (R1 : R8.IsRing w1 b gr zs M) (B4 : Below w1.heap.size w1 w4)
    (L1 : Lst w1 g A zs) (hA : A = none → c = 0) (hc : zs.length ≤ c) (hg : zs ≠ [] → g ≠ b ∧ g ≠ gr ∧ g ≠ vb) (hb1 : vb ≠ b) (hb2 : vb ≠ gr) (hgr : w.heap.size ≤ gr) (hvb : w.heap.size < vb) : Ahead w b vb M gr zs g A c w4 :=
  ⟨R1.kept B4, L1.kept B4, hA, hc, hg, hb1, hb2, hgr, Nat.le_of_lt hvb, new_then Bl B4⟩
theorem act_at {w : World} {a : Option Addr} {len cap : Nat} (h : IsRows w a len cap 2 [(0, Sum.inr false), (1, Sum.inl IntKind.i64)]) (hp : 0 < len) :
    ∃ b off, a = some ⟨b, off, none⟩ ∧ ∀ i, i < len → ∃ (p : Bool) (x : Int), w.cell? ⟨b, off + i * 2, none⟩ = some (.bool p) ∧ w.cell? ⟨b, off + i * 2 + 1, none⟩ = some (.int .i64 x) ∧ b < w.heap.size := by
  obtain ⟨b, off, rfl, _, _, h⟩ := rows_at h hp
  refine ⟨b, off, rfl, fun i hi => ?_⟩
  obtain ⟨u, hu, p, rfl⟩ := h i hi (0, .inr false) (by simp)
  obtain ⟨v, hv, x, rfl, _⟩ := h i hi (1, .inl .i64) (by simp)
  exact ⟨p, x, hu, hv, World.block_lt_of_cell? w _ hu⟩
theorem own : ownKnob Try.prog.godebug = none := by kernel_rfl
theorem laidOut : laidOutB Try.prog = true := by kernel_rfl

set_option maxHeartbeats 4000000 in
set_option maxRecDepth 100000 in
theorem walk (a0 : Int) (a1 : Option Addr) (len1 cap1 : Nat) (w : World) (w0 : (Lit.int .i64 a0).wf = true) (w1 : IsRows w a1 len1 cap1 2 [(0, .inr false), (1, .inl .i64)]) :
    Calls Try.prog 3 #[.int .i64 a0, .slice a1 len1 cap1] w fun e w' => e = .returned (.bool true) ∧ Below w.heap.size w w' := by
  have HW := Lib.hid w1
  clear w1
  go_enter Try.func3, Try.ntmps3
  go_wp2_with (first
    | (go_at_call 6; refine (R8.new_ring a0 w).mono ?_; rintro e w1 ⟨rfl, RR, B1⟩)
    | (go_at_call 7; refine (refNew5_any a0 w1).mono ?_; rintro e w2 ⟨rfl, B2⟩))
  have S0 := Lib.hid (plays_start RR B1 B2)
  have hM := R8.mst_le a0
  have hvb : w.heap.size < w2.heap.size := Nat.lt_of_lt_of_le RR.lt.1 B2.size
  clear RR
  generalize R8.mst a0 = M at S0 hM ⊢
  generalize hvq : w2.heap.size = vb at S0 hvb ⊢
  go_loopg [22] len1 (fun gh vi wr => PlaysInv w w.heap.size vb M len1 gh vi wr)
  case atStart => exact ⟨0, by omega, rfl, rfl, S0.out⟩
  case round =>
    obtain ⟨k, hk, rfl, rfl, gr, zs, g, A, c, R, V, Ls, hA, hc, hg, hb1, hb2, hgr, Bl⟩ := hrel
    by_cases hlt : k < len1
    · obtain ⟨bl, off, rfl, hel⟩ := act_at HW.out (by omega)
      obtain ⟨p, x, e0, e1, hbl⟩ := hel k hlt
      clear hel
      have e0' := cell_low Bl hbl e0
      have e1' := cell_low Bl hbl e1
      have ki0 : (0 : Int) ≤ (k : Int) := by omega
      have ki1 : (k : Int) < (len1 : Int) := by omega
      by_cases h60 : 60 ≤ k
      · have h60' : (60 : Int) ≤ (k : Int) := by omega
        clear R V Ls
        go_wp2_with (go_at_call 13; refine (works05_any _).mono ?_; rintro e w3 ⟨rfl, B3⟩)
        go_ret
        exact ⟨rfl, new_then (Bl.alloc Bl.size _) B3⟩
      · have h60' : (k : Int) < 60 := by omega
        have hvr : vb < wr.heap.size := V.lt
        have hn1 : ¬ wr.heap.size = vb := by omega
        have hn2 : ¬ vb = wr.heap.size := by omega
        have BA := new_alloc (new_refl wr) (.cells #[.bool p, .int .i64 x] 30)
        have R1 := Lib.hid (R.kept BA)
        have V1 := Lib.hid (V.kept BA)
        have L1 := Lib.hid (Ls.kept BA)
        have z0 := (V.kept BA).cell 0 rfl
        have z1 := (V.kept BA).cell 1 rfl
        have hA' : A = none → c = 0 := hA
        clear R V Ls hA
        cases p
        · have hle := R1.out.le
          obtain ⟨L, eL⟩ : ∃ L, zs.length = L := ⟨_, rfl⟩
          rw [eL] at z0 hle
          have EL := Lib.hid eL
          clear eL
          by_cases hf : L = M
          · subst hf
            go_wp2_with (first
              | (go_at_call 10; refine (refPush5_full L c A x _).mono ?_; rintro e w4 ⟨rfl, B4⟩; have V4 := V1.out.kept B4; have y0 := V4.cell 0 rfl; have y1 := V4.cell 1 rfl; have f0 := V4.frozen 0; have f1 := V4.frozen 1; have l4 := V4.lt; have q := (At.new wr [.bool false, .int .i64 x] 30).kept B4; have q1 := q.cell 1 rfl; have ql := q.1; have H4 := ahead_full (new_then Bl BA) R1.out B4 L1.out hA' hc hg hb1 hb2 hgr hvb)
              | (go_at_call 11; refine (R8.push_full _ gr x zs L _ ?_ EL.out).mono ?_; (exact H4.1.out out_var (fun e => hb1 e.symm) (fun e => hb2 e.symm)); rintro e w5 ⟨rfl, m5, rfl⟩))
            have P5 := Lib.hid ((pa_ahead (L := L) (o := .cells #[.slice A L c, .int .i64 (L : Int)] 27) H4 V4 EL.out).draw m5)
            have y0' := P5.out.v0 EL.out
            have y1' := P5.out.v1
            go_wp2_with (go_at_call 12; refine (P5.out.same EL.out).mono ?_; rintro e w6 ⟨rfl, B6⟩)
            go_roundg (len1 - (k + 1))
            case measure => omega
            case rel => exact ⟨k + 1, by omega, rfl, by go_num, _, _, _, _, _, P5.out.kept B6⟩
          · go_wp2_with (first
              | (go_at_call 10; refine (push_at (M := M) (x := x) EL.out L1.out hA' hf (by omega)).mono ?_; rintro e w4 ⟨g4, c4, rfl, lg4, lg4', L4, hc4, B4⟩; have V4 := V1.out.kept B4; have y0 := V4.cell 0 rfl; have y1 := V4.cell 1 rfl; have f0 := V4.frozen 0; have f1 := V4.frozen 1; have l4 := V4.lt; have q := (At.new wr [.bool false, .int .i64 x] 30).kept B4; have q1 := q.cell 1 rfl; have ql := q.1)
              | (go_at_call 11; refine (R8.push_any _ gr x zs M _ ?_ ?_).mono ?_; (exact (R1.out.kept B4).out out_var (fun e => hb1 e.symm) (fun e => hb2 e.symm)); (rw [EL.out]; omega); rintro e w5 ⟨gr5, rfl, R5, hg5, o5⟩; have P5 := Lib.hid (pa_push (L := L) EL.out (new_then Bl BA) R1.out V1.out B4 L4 lg4 hc4 R5 hg5 o5 hb1 hb2 hgr hvb (Nat.le_refl _)); have y0' := P5.out.v0 (L := L + 1) (by simp [EL.out]); have y1' := P5.out.v1)
              | (go_at_call 12; refine (P5.out.same (L := L + 1) (by simp [EL.out])).mono ?_; rintro e w6 ⟨rfl, B6⟩))
            go_roundg (len1 - (k + 1))
            case measure => omega
            case rel => exact ⟨k + 1, by omega, rfl, by go_num, _, _, _, _, _, P5.out.kept B6⟩
        · cases zs with
          | nil =>
            go_wp2_with (first
              | (go_at_call 8; refine (R8.pop_none _ gr M _ R1.out).mono ?_; rintro e w3 ⟨rfl, m3, rfl⟩)
              | (go_at_call 9; refine (refPop5_none c A (M : Int) _).mono ?_; rintro e w4 ⟨rfl, B4⟩; have V4 := Blk.kept (w := (wr.alloc (.cells #[.bool true, .int .i64 x] 30)).drewN m3) V1.out B4; have y0 := V4.cell 0 rfl; have y1 := V4.cell 1 rfl; have f0 := V4.frozen 0; have f1 := V4.frozen 1; have l4 := V4.lt; have H4 := ahead_none (g := g) Bl BA m3 R1.out B4 hA' (Nat.zero_le c) hb1 hb2 hgr hvb)
              | (go_at_call 12; refine (same_at (zs := []) H4 rfl).mono ?_; rintro e w6 ⟨rfl, B6⟩))
            go_roundg (len1 - (k + 1))
            case measure => omega
            case rel => exact ⟨k + 1, by omega, rfl, by go_num, plays_next H4 V4 B6⟩
          | cons z ys =>
            have hc' : ys.length + 1 ≤ c := hc
            obtain ⟨hg1, hg2, hg3⟩ := hg (by simp)
            obtain ⟨L, eL⟩ : ∃ L, ys.length = L := ⟨_, rfl⟩
            rw [List.length_cons, eL] at z0
            have EL := Lib.hid eL
            clear hc hg eL
            go_wp2_with (first
              | (go_at_call 8; refine (R8.pop_some _ gr z ys M _ R1.out).mono ?_; rintro e w3 ⟨gr3, rfl, R3, hg3', o3⟩; have V3 := V1.out.out o3 (not_foot hb1 hb2); have L3 := L1.out.out o3 (not_foot hg1 hg2); clear z0 z1; have z0 := V3.cell 0 rfl; have z1 := V3.cell 1 rfl; rw [List.length_cons, EL.out] at z0)
              | (go_at_call 9; refine (pop_at (ys := ys) EL.out L3 hc').mono ?_; rintro e w4 ⟨A4, rfl, L4, B4⟩; have V4 := V3.kept B4; have y0 := V4.cell 0 rfl; have y1 := V4.cell 1 rfl; have f0 := V4.frozen 0; have f1 := V4.frozen 1; have l4 := V4.lt; have H4 := ahead_pop (new_then Bl BA) R3 hg3' o3 B4 L4 (L1.out.lt (by simp)) V1.out.lt hg1 hg2 hg3 hb1 hb2 hgr hvb hc' (Nat.le_refl _))
              | (go_at_call 12; refine (same_at (zs := ys) H4 rfl).mono ?_; rintro e w6 ⟨rfl, B6⟩))
            go_roundg (len1 - (k + 1))
            case measure => omega
            case rel => exact ⟨k + 1, by omega, rfl, by go_num, plays_next H4 V4 B6⟩
    · clear R V Ls
      go_wp2_with (go_at_call 13; refine (works05_any _).mono ?_; rintro e w3 ⟨rfl, B3⟩)
      go_ret
      exact ⟨rfl, new_then Bl B3⟩

set_option maxRecDepth 100000 in
theorem lifted (os : Os) (started : os.Started) (H : Type) (enc : TypeId × Value → H) :
    ReturnsInHanded {} Try.checked os 3 .any (Rows.ringPlaysSpec.pre6 enc Try.prog Try.f3 Rows.ringPlaysRow.domain false) (Rows.ringPlaysSpec.post enc Try.prog Try.f3 false true false false) := by
  refine returnsInHanded_of_change (C := Try.checked) own started (by kernel_rfl) Try.func3
    (ChangeSpec.witness6 (enc := enc) (C := Try.checked) false ⟨#[], #[.int .i64 0, .slice none 0 0], []⟩ 8 (by kernel_rfl) (by kernel_rfl) (by kernel_rfl) (by kernel_rfl)) ?_
  intro W base args ds gs before hval0 hW hcnd _
  have hval : ∀ (j : Nat) t v, Try.f3.params[j]? = some t → args[j]? = some v → Value.okWide Try.prog W .any base t v := hval0
  have hW' := hW
  obtain ⟨p, q, hA0, hV, rfl, hfz, hnd⟩ := hW
  have hA : DataW.TrodAll enc Try.prog W 0 (fun _ => true) true Try.f3.params.toList args.toList ds p := hA0
  rw [Try.params3] at hA hval
  obtain ⟨v0, vs0, d0, ds0, p0, q0, hargs, rfl, rfl, h0, r0⟩ := trodAll_cons hA
  obtain ⟨v1, vs1, d1, ds1, p1, q1, rfl, rfl, rfl, h1, r1⟩ := trodAll_cons r0
  obtain ⟨rfl, rfl, rfl⟩ := trodAll_nil r1
  obtain rfl : args = #[v0, v1] := by cases args; simp_all
  obtain ⟨rfl, rfl⟩ := trodVars_none hV
  have k0 := h0
  have lt0 : ∀ x ∈ p0, x.block < W.heap.size := by obtain ⟨m, hm⟩ := k0; exact DataW.trod_lt m _ _ _ hm
  obtain ⟨a0, rfl, _, _, w0⟩ := open_int Try.underlying3 (hval 0 3 v0 rfl rfl) h0
  have k1 := h1
  have lt1 : ∀ x ∈ p1, x.block < W.heap.size := by obtain ⟨m, hm⟩ := k1; exact DataW.trod_lt m _ _ _ hm
  obtain ⟨a1, len1, cap1, rfl⟩ := okWide_slice Try.underlying22 (hval 1 22 v1 rfl rfl)
  have w1 := isRows_of (n := 2) (ls := [(0, .inr false), (1, .inl .i64)]) Try.underlying22 (by kernel_rfl) (by kernel_rfl) (by decide) h1
  clear hA0 hval0
  refine (walk a0 a1 len1 cap1 W w0 w1).mono fun e W' ⟨he, bel⟩ => ?_
  subst he
  exact ⟨_, rfl, _, _, _, [], _, [], hW', trodAll_mk1 (shut_bool Try.underlying4 _), (trodAll_cons_mk (Below.trod laidOut (by kernel_rfl) (of_decide_eq_true (by kernel_rfl)) k0 bel lt0) (trodAll_cons_mk (Below.trod laidOut (by kernel_rfl) (of_decide_eq_true (by kernel_rfl)) k1 bel lt1) trodAll_mk0)), rfl, bel.frame _, fun h => by cases h⟩

theorem over : Rows.ringPlaysRow.holds Try.pinned (OpenSpec.ofChange Rows.ringPlaysSpec) :=
  OpenClaim.holds_of_wide 3 Try.f3 rfl rfl rfl rfl rfl rfl rfl ⟨rfl, rfl, rfl, rfl, rfl⟩ rfl rfl rfl rfl rfl (by kernel_rfl) Try.func3 (by kernel_rfl)
    (of_decide_eq_true (by kernel_rfl)) (by unfold Func.isWrapper; first | (rw [if_pos (by decide +kernel)]; kernel_rfl) | (rw [if_neg (by decide +kernel)]; exact ⟨rfl, rfl⟩))
    (fun os started H enc _ => lifted os started H enc)
end ringPlays
theorem ringPlays_holds : Rows.RingPlaysSaid := ringPlays.over
end Go.Proofs.Ytamcakckbabeiaa
