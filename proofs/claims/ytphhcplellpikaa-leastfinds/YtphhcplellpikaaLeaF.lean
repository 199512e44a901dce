/- A filter beside the document's list; leatlaw21.works. -/
import Derived.Test.YtphhcplellpikaaLeaC
import Derived.Test.YtphhcplellpikaaLeaE
namespace Go.Proofs.Ytphhcplellpikaa
open Go.RowKit
set_option linter.unusedVariables false

/-- A filter among the blocks that came since w, which kept those of l, and the document's list m beside it. -/
structure LsAt (w : World) (b : Nat) (W : Int) (V : Value) (l m : List Lc) (v : Value) (wr : World) : Prop where
  fil : LF w.heap.size wr b W V (kpL l)
  far : ∀ g, v.ownBlock = some g → g ≠ b ∧ V.ownBlock ≠ some g
  row : OwnC21 wr w.heap.size v m
  new : w.heap.size ≤ b
  low : Below w.heap.size w wr
theorem LsAt.kept {w wr w' : World} {b : Nat} {W : Int} {V v : Value} {l m : List Lc} (h : LsAt w b W V l m v wr) (B : Below wr.heap.size wr w') : LsAt w b W V l m v w' :=
  ⟨h.fil.kept B, h.far, h.row.kept B, h.new, new_then h.low B⟩
theorem LsAt.lt {w wr : World} {b : Nat} {W : Int} {V v : Value} {l m : List Lc} (h : LsAt w b W V l m v wr) : b < wr.heap.size ∧ ∀ g, V.ownBlock = some g → g < wr.heap.size :=
  ⟨h.fil.blk.lt, fun g e => (World.ownsRow.lt h.fil.own g e).2⟩
theorem ls_new {w w' : World} {b : Nat} {W : Int} (hb : w.heap.size ≤ b) (h : LF w.heap.size w' b W (.slice none 0 0) []) (B : Below w.heap.size w w') : LsAt w b W (.slice none 0 0) [] [] (.slice none 0 0) w' :=
  ⟨h, fun g e => by simp [Value.ownBlock] at e, OwnE.nil _ _ _ _ _, hb, B⟩
/-- Behind the program's Put. -/
def LsPut (w : World) (b : Nat) (W : Int) (V : Value) (l m : List Lc) (v : Value) (wr : World) (e : Ending) (w' : World) : Prop :=
  e = .returned (.tuple #[]) ∧ ∃ V', LsAt w b W V' l m v w' ∧ Out (fun k => k = b ∨ V.ownBlock = some k) wr w'
theorem LsAt.put {w wr : World} {b : Nat} {W : Int} {V v : Value} {l m : List Lc} (h : LsAt w b W V l m v wr) (hl : l.length < 1000000) (t x : Int) :
    Calls Try.prog 6 #[.pointer (some ⟨b, 0, none⟩), .int .i64 t, .int .i64 x] wr (LsPut w b W V (ptL l t x) m v wr) := by
  have hk := kpL_len l
  refine (put21_any h.fil h.low.size (by omega) (kpL_rise l) t x).mono ?_
  rintro e w' ⟨he, V', h1, o⟩
  refine ⟨he, V', ⟨?_, ?_, ?_, h.new, ?_⟩, o⟩
  · rw [kpL_put]; exact h1
  · intro g eg
    refine ⟨(h.far g eg).1, fun e2 => ?_⟩
    have h2 := h1.own
    rcases h.row.form with ⟨rfl, _⟩ | ⟨g', c', rfl⟩
    · simp [Value.ownBlock] at eg
    · simp [Value.ownBlock] at eg
      subst eg
      have h3 := h.row.out o (fun k e => by
        simp [Value.ownBlock] at e
        subst e
        rintro (e3 | e3)
        · exact (h.far _ rfl).1 e3
        · exact (h.far _ rfl).2 e3)
      obtain ⟨_, _, _, _, r1, b1, _⟩ := h3.blk encL_is
      rcases h1.form with ⟨rfl, _⟩ | ⟨g2, c2, rfl⟩
      · simp [Value.ownBlock] at e2
      · simp [Value.ownBlock] at e2
        subst e2
        obtain ⟨_, _, _, _, r2, b2, _⟩ := h2.blk encL_is
        rw [Blk] at b1 b2
        rw [b1] at b2
        simp at b2
  · refine h.row.out o (fun k e => ?_)
    rintro (e3 | e3)
    · exact (h.far _ e).1 e3
    · exact (h.far _ e).2 e3
  · exact h.low.trans (o.below h.low.size (fun k hk => by
      rcases hk with rfl | hk
      · exact h.new
      · exact (World.ownsRow.lt h.fil.own k hk).1))
/-- Behind the document's Put. -/
def LsRef (w : World) (b : Nat) (W : Int) (V : Value) (l m : List Lc) (wr : World) (e : Ending) (w' : World) : Prop :=
  ∃ v', e = .returned v' ∧ LsAt w b W V l m v' w' ∧ Below wr.heap.size wr w'
theorem LsAt.ref {w wr : World} {b : Nat} {W : Int} {V v : Value} {l m : List Lc} (h : LsAt w b W V l m v wr) (hl : m.length < 1000000) (t x : Int) :
    Calls Try.prog 7 #[v, .int .i64 t, .int .i64 x] wr (LsRef w b W V l (ptL m t x) wr) := by
  refine (refPut21_any h.row hl t x).mono ?_
  rintro e w' ⟨v', he, h1, B⟩
  refine ⟨v', he, ⟨h.fil.kept B, fun g eg => ?_, h1.mono h.low.size, h.new, new_then h.low B⟩, B⟩
  have h2 := (World.ownsRow.lt h1 g eg).1
  have h3 := h.lt
  exact ⟨by omega, fun e2 => by have := h3.2 g e2; omega⟩
/-- What Least tells. -/
theorem LsAt.least {w wr : World} {b : Nat} {W : Int} {V v : Value} {l m : List Lc} (h : LsAt w b W V l m v wr) (hl : l.length ≤ 1000000) (hp : 0 < l.length) (ht : TmL l) (hW : 0 ≤ W ∧ W ≤ 1125899906842624) (now : Int) :
    Calls Try.prog 8 #[.pointer (some ⟨b, 0, none⟩), .int .i64 now] wr fun e w' => e = .returned (.tuple #[.int .i64 (lsL l (nrL now - W)), .bool true]) ∧ Below wr.heap.size wr w' :=
  least21_any h.fil hl hp ht hW now
theorem LsAt.refLeast {w wr : World} {b : Nat} {W : Int} {V v : Value} {l m : List Lc} (h : LsAt w b W V l m v wr) (hl : m.length ≤ 1000000) (hp : 0 < m.length) (win now : Int) :
    Calls Try.prog 9 #[v, .int .i64 win, .int .i64 now] wr fun e w' => e = .returned (.tuple #[.int .i64 (lsL m (nrL now - wnL win)), .bool true]) ∧ Below wr.heap.size wr w' := by
  obtain ⟨n, hn⟩ : ∃ n, m.length = n + 1 := ⟨m.length - 1, by omega⟩
  exact refLeast21_any h.row hn (by omega) win now
theorem LsAt.len {w wr : World} {b : Nat} {W : Int} {V v : Value} {l m : List Lc} (h : LsAt w b W V l m v wr) :
    Calls Try.prog 10 #[.pointer (some ⟨b, 0, none⟩)] wr fun e w' => e = .returned (.int .i64 ((kpL l).length : Int)) ∧ wr = w' := len21_any h.fil _ rfl
theorem LsAt.refLen {w wr : World} {b : Nat} {W : Int} {V v : Value} {l m : List Lc} (h : LsAt w b W V l m v wr) (hl : m.length ≤ 1000000) :
    Calls Try.prog 11 #[v] wr fun e w' => e = .returned (.int .i64 ((kpL m).length : Int)) ∧ Below wr.heap.size wr w' := refLen21_any h.row hl

/-- What Least tells, whether any came or not. -/
theorem LsAt.tell {w wr : World} {b : Nat} {W : Int} {V v : Value} {l m : List Lc} (h : LsAt w b W V l m v wr) (hl : l.length ≤ 1000000) (ht : TmL l) (hW : 0 ≤ W ∧ W ≤ 1125899906842624) (now : Int) :
    Calls Try.prog 8 #[.pointer (some ⟨b, 0, none⟩), .int .i64 now] wr fun e w' => e = .returned (.tuple #[.int .i64 (lsL l (nrL now - W)), .bool (decide (0 < l.length))]) ∧ Below wr.heap.size wr w' := by
  rcases Nat.eq_zero_or_pos l.length with h0 | hp
  · obtain rfl := List.length_eq_zero_iff.1 h0
    exact least21_none h.fil now
  · rw [decide_eq_true hp]
    exact h.least hl hp ht hW now
theorem LsAt.refTell {w wr : World} {b : Nat} {W : Int} {V v : Value} {l m : List Lc} (h : LsAt w b W V l m v wr) (hl : m.length ≤ 1000000) (win now : Int) :
    Calls Try.prog 9 #[v, .int .i64 win, .int .i64 now] wr fun e w' => e = .returned (.tuple #[.int .i64 (lsL m (nrL now - wnL win)), .bool (decide (0 < m.length))]) ∧ Below wr.heap.size wr w' := by
  rcases Nat.eq_zero_or_pos m.length with h0 | hp
  · obtain ⟨A, c, rfl⟩ := h.row.isSlice
    obtain rfl := List.length_eq_zero_iff.1 h0
    refine (refLeast21_none c A win now wr).mono ?_
    rintro e w' ⟨he, rfl⟩
    exact ⟨he, new_refl wr⟩
  · rw [decide_eq_true hp]
    exact h.refLeast hl hp win now

theorem works21_any (w : World) : Calls Try.prog 12 #[] w fun e w' => e = .returned (.bool true) ∧ Below w.heap.size w w' := by
  have t1 : TmL (ptL (ptL [] 0 5) 8 7) := ptL_time (ptL_time (by simp [TmL]) _ _) _ _
  have e1 : lsL (ptL (ptL [] 0 5) 8 7) (nrL 9 - wnL 10) = 5 := by decide
  have e2 : lsL (ptL (ptL [] 0 5) 8 7) (nrL 10 - wnL 10) = 7 := by decide
  have p1 := Lib.hid (ptL_len [] 0 5)
  have p2 := Lib.hid (ptL_len (ptL [] 0 5) 8 7)
  have T := Lib.hid t1
  have E1 := Lib.hid e1
  have E2 := Lib.hid e2
  have N := Lib.hid (new21_any 10 w)
  have wb := wnL_bd 10
  generalize wnL 10 = W at *
  clear t1 e1 e2
  go_enter Try.func12, Try.ntmps12
  go_wp2_with (first
    | (go_at_call 5; refine N.out.mono ?_; rintro e w1 ⟨b, rfl, hb, D1, B1⟩; have A1 := Lib.hid (ls_new hb D1 B1); clear D1 B1)
    | (go_at_call 6; have h := A2; clear h; refine (A2.out.put (by rw [p1.out]; simp) 8 7).mono ?_; rintro e w3 ⟨rfl, V3, D3, _⟩; have A3 := Lib.hid D3; clear D3)
    | (go_at_call 6; refine (A1.out.put (by simp) 0 5).mono ?_; rintro e w2 ⟨rfl, V2, D2, _⟩; have A2 := Lib.hid D2; clear D2)
    | (go_at_call 8; have h := A4; clear h; refine (A4.out.least (by rw [p2.out, p1.out]; simp) (by rw [p2.out]; omega) T.out wb 10).mono ?_; rw [E2.out]; rintro e w5 ⟨rfl, B5⟩; have A5 := Lib.hid (A4.out.kept B5))
    | (go_at_call 8; refine (A3.out.least (by rw [p2.out, p1.out]; simp) (by rw [p2.out]; omega) T.out wb 9).mono ?_; rw [E1.out]; rintro e w4 ⟨rfl, B4⟩; have A4 := Lib.hid (A3.out.kept B4)))
  go_ret
  exact ⟨rfl, A5.out.low⟩
end Go.Proofs.Ytphhcplellpikaa
