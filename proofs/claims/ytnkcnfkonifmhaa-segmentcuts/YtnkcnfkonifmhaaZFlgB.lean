/- Package flags: Encode; the document's Encode; the chapter's example. -/
import Derived.Test.YtnkcnfkonifmhaaZFlgA
import Derived.Test.YtnkcnfkonifmhaaZRegH
import Derived.Laws.StructEq
import Derived.Deep.DeepCutAuto
import Derived.Deep.QuietTactic
import Derived.BigQuiet
namespace Go.Proofs.Ytnkcnfkonifmhaa
open Go.RowKit
set_option linter.unusedVariables false

theorem eqfH (x y : Hd) (w : World) : (Op.eqFields 9999 #[.int .u16 x.src, .int .u16 x.dst, .int .u32 x.seq, .int .u32 x.ack, .int .u8 x.off, .int .u8 x.ace, .int .u8 x.fl, .int .u16 x.win, .int .u16 x.sum, .int .u16 x.urg]
    #[.int .u16 y.src, .int .u16 y.dst, .int .u32 y.seq, .int .u32 y.ack, .int .u8 y.off, .int .u8 y.ace, .int .u8 y.fl, .int .u16 y.win, .int .u16 y.sum, .int .u16 y.urg] (Try.prog.fieldsOf 27).toList).run Try.prog w = .ok (x.src == y.src && (x.dst == y.dst && (x.seq == y.seq && (x.ack == y.ack && (x.off == y.off && (x.ace == y.ace && (x.fl == y.fl && (x.win == y.win && (x.sum == y.sum && x.urg == y.urg))))))))) w := by
  simp only [Program.fieldsOf, Try.underlying27]
  go_simp
  repeat' split
  all_goals simp_all
/-- Are two headers the same? -/
def sameH (x y : Hd) : Bool := x.src == y.src && (x.dst == y.dst && (x.seq == y.seq && (x.ack == y.ack && (x.off == y.off && (x.ace == y.ace && (x.fl == y.fl && (x.win == y.win && (x.sum == y.sum && x.urg == y.urg))))))))
theorem same_refl (x : Hd) : sameH x x = true := by simp [sameH]
theorem neqH (x y : Hd) (w : World) : (binOp .neq 27 (.agg #[.int .u16 x.src, .int .u16 x.dst, .int .u32 x.seq, .int .u32 x.ack, .int .u8 x.off, .int .u8 x.ace, .int .u8 x.fl, .int .u16 x.win, .int .u16 x.sum, .int .u16 x.urg]) (.agg #[.int .u16 y.src, .int .u16 y.dst, .int .u32 y.seq, .int .u32 y.ack, .int .u8 y.off, .int .u8 y.ace, .int .u8 y.fl, .int .u16 y.win, .int .u16 y.sum, .int .u16 y.urg])).run Try.prog w = .ok (.bool (!sameH x y)) w := by
  rw [run_neq_struct, show (10000 : Nat) = 9999 + 1 from rfl, run_equalIn_agg w 9999 _ _ _ (by kernel_rfl) (by kernel_rfl), eqfH]
  rfl
theorem eqlH (x y : Hd) (w : World) : (binOp .eql 27 (.agg #[.int .u16 x.src, .int .u16 x.dst, .int .u32 x.seq, .int .u32 x.ack, .int .u8 x.off, .int .u8 x.ace, .int .u8 x.fl, .int .u16 x.win, .int .u16 x.sum, .int .u16 x.urg]) (.agg #[.int .u16 y.src, .int .u16 y.dst, .int .u32 y.seq, .int .u32 y.ack, .int .u8 y.off, .int .u8 y.ace, .int .u8 y.fl, .int .u16 y.win, .int .u16 y.sum, .int .u16 y.urg])).run Try.prog w = .ok (.bool (sameH x y)) w := by
  rw [run_eql_struct, show (10000 : Nat) = 9999 + 1 from rfl, run_equalIn_agg w 9999 _ _ _ (by kernel_rfl) (by kernel_rfl), eqfH]
  rfl
def cutH (h : Hd) : Hd := { h with off := h.off % 16, ace := h.ace % 8, fl := h.fl % 64 }
theorem neq_cut (h : Hd) (q : Bool) (hq : sameH h (cutH h) = q) (w : World) : (binOp .neq 27 (.agg #[.int .u16 h.src, .int .u16 h.dst, .int .u32 h.seq, .int .u32 h.ack, .int .u8 h.off, .int .u8 h.ace, .int .u8 h.fl, .int .u16 h.win, .int .u16 h.sum, .int .u16 h.urg]) (.agg #[.int .u16 h.src, .int .u16 h.dst, .int .u32 h.seq, .int .u32 h.ack, .int .u8 (h.off % 16), .int .u8 (h.ace % 8), .int .u8 (h.fl % 64), .int .u16 h.win, .int .u16 h.sum, .int .u16 h.urg])).run Try.prog w = .ok (.bool (!q)) w := by
  rw [← hq]; exact neqH h (cutH h) w
theorem cut_fit {h : Hd} (ok : HdOk h) (h5 : 5 ≤ h.off) : (sameH h (cutH h) = true ↔ fitF h) := by
  have h1 := ok.off; have h2 := ok.ace; have h3 := ok.fl
  simp only [sameH, cutH, beq_self_eq_true, Bool.true_and, Bool.and_true, Bool.and_eq_true, beq_iff_eq, fitF]
  omega
theorem ten_kept {W w1 : World} {p0 p1 p2 p3 p4 p5 p6 p7 p8 p9 : Addr} {v0 v1 v2 v3 v4 v5 v6 v7 v8 v9 : Value} (hb : Below W.heap.size W w1) (h : W.cell? p0 = some v0 ∧ W.cell? p1 = some v1 ∧ W.cell? p2 = some v2 ∧ W.cell? p3 = some v3 ∧ W.cell? p4 = some v4 ∧ W.cell? p5 = some v5 ∧ W.cell? p6 = some v6 ∧ W.cell? p7 = some v7 ∧ W.cell? p8 = some v8 ∧ W.cell? p9 = some v9) : w1.cell? p0 = some v0 ∧ w1.cell? p1 = some v1 ∧ w1.cell? p2 = some v2 ∧ w1.cell? p3 = some v3 ∧ w1.cell? p4 = some v4 ∧ w1.cell? p5 = some v5 ∧ w1.cell? p6 = some v6 ∧ w1.cell? p7 = some v7 ∧ w1.cell? p8 = some v8 ∧ w1.cell? p9 = some v9 := by
  obtain ⟨h0, h1, h2, h3, h4, h5, h6, h7, h8, h9⟩ := h
  exact ⟨cell_kept hb h0, cell_kept hb h1, cell_kept hb h2, cell_kept hb h3, cell_kept hb h4, cell_kept hb h5, cell_kept hb h6, cell_kept hb h7, cell_kept hb h8, cell_kept hb h9⟩
/-- A header's numbers in block g. -/
abbrev hdV (h : Hd) : List Value := [.int .u16 h.src, .int .u16 h.dst, .int .u32 h.seq, .int .u32 h.ack, .int .u8 h.off, .int .u8 h.ace, .int .u8 h.fl, .int .u16 h.win, .int .u16 h.sum, .int .u16 h.urg]

/-- What Encode tells of a header that may be. -/
def EncTo (w : World) (h : Hd) (e : Ending) (w' : World) : Prop := ∃ g c, e = .returned (.tuple #[.slice (some ⟨g, 0, none⟩) 20 c, .int .i64 0]) ∧ OwnB w' w.heap.size (.slice (some ⟨g, 0, none⟩) 20 c) (hdF h) ∧ Below w.heap.size w w'
set_option maxRecDepth 100000 in
set_option maxHeartbeats 2000000 in
theorem encode_no (h : Hd) (ok : HdOk h) (w : World) (hf : ¬ fitF h) :
    Calls Try.prog 38 #[.agg #[.int .u16 h.src, .int .u16 h.dst, .int .u32 h.seq, .int .u32 h.ack, .int .u8 h.off, .int .u8 h.ace, .int .u8 h.fl, .int .u16 h.win, .int .u16 h.sum, .int .u16 h.urg]] w fun e w' => e = .returned (.tuple #[.slice none 0 0, .int .i64 2]) ∧ Below w.heap.size w w' := by
  have A := At.new w (hdV h) 27
  have L0 := Lib.hid (new_alloc (new_refl w) (.cells #[.int .u16 h.src, .int .u16 h.dst, .int .u32 h.seq, .int .u32 h.ack, .int .u8 h.off, .int .u8 h.ace, .int .u8 h.fl, .int .u16 h.win, .int .u16 h.sum, .int .u16 h.urg] 27))
  by_cases h5 : h.off < 5
  · have c4 := A.cell 4 rfl
    clear ok hf
    go_enter Try.func38, Try.ntmps38
    go_upto_region 1 with (fail)
    generalize w.alloc (.cells #[.int .u16 h.src, .int .u16 h.dst, .int .u32 h.seq, .int .u32 h.ack, .int .u8 h.off, .int .u8 h.ace, .int .u8 h.fl, .int .u16 h.win, .int .u16 h.sum, .int .u16 h.urg] 27) = W at A L0 c4 ⊢
    clear A
    go_quiet (fail)
    go_wp2_with fail
    go_ret2
    exact ⟨rfl, new_draw L0.out _⟩
  · have h5' : 5 ≤ h.off := by omega
    have hq : sameH h (cutH h) = false := by
      cases e : sameH h (cutH h)
      · rfl
      · exact absurd ((cut_fit ok h5').1 e) hf
    have hn := neq_cut h false hq
    have d5 : decide (h.off < 5) = false := decide_eq_false h5
    have OK := Lib.hid ok
    have c0 := A.cell 0 rfl
    have c1 := A.cell 1 rfl
    have c2 := A.cell 2 rfl
    have c3 := A.cell 3 rfl
    have c4 := A.cell 4 rfl
    have c5 := A.cell 5 rfl
    have c6 := A.cell 6 rfl
    have c7 := A.cell 7 rfl
    have c8 := A.cell 8 rfl
    have c9 := A.cell 9 rfl
    clear ok hf hq h5
    go_enter Try.func38, Try.ntmps38
    go_upto_region 1 with (fail)
    generalize w.alloc (.cells #[.int .u16 h.src, .int .u16 h.dst, .int .u32 h.seq, .int .u32 h.ack, .int .u8 h.off, .int .u8 h.ace, .int .u8 h.fl, .int .u16 h.win, .int .u16 h.sum, .int .u16 h.urg] 27) = W at A L0 c0 c1 c2 c3 c4 c5 c6 c7 c8 c9 ⊢
    clear A
    go_region_held3 (fun w' => w'.cell? ⟨w.heap.size, 0, none⟩ = some (.int .u16 h.src) ∧ w'.cell? ⟨w.heap.size, 1, none⟩ = some (.int .u16 h.dst) ∧ w'.cell? ⟨w.heap.size, 2, none⟩ = some (.int .u32 h.seq) ∧ w'.cell? ⟨w.heap.size, 3, none⟩ = some (.int .u32 h.ack) ∧ w'.cell? ⟨w.heap.size, 4, none⟩ = some (.int .u8 h.off) ∧ w'.cell? ⟨w.heap.size, 5, none⟩ = some (.int .u8 h.ace) ∧ w'.cell? ⟨w.heap.size, 6, none⟩ = some (.int .u8 h.fl) ∧ w'.cell? ⟨w.heap.size, 7, none⟩ = some (.int .u16 h.win) ∧ w'.cell? ⟨w.heap.size, 8, none⟩ = some (.int .u16 h.sum) ∧ w'.cell? ⟨w.heap.size, 9, none⟩ = some (.int .u16 h.urg))
      (first | go_keep | exact ten_kept B1 (by assumption))
      (first
        | (go_at_call 63; refine (fitted_any h OK.out _).mono ?_; rintro e w1 ⟨rfl, B1⟩))
    all_goals
      go_wp2_with fail
      go_ret2
      exact ⟨rfl, new_then L0.out (new_undrew B1)⟩

/-- A list that grows, beside a header in block b. -/
structure GrowF (w : World) (b : Nat) (h : Hd) (v : Value) (zs : List Int) (wr : World) : Prop where
  hd : At wr b (hdV h)
  own : OwnB wr w.heap.size v zs
  far : v.ownBlock ≠ some b
  new : Below w.heap.size w wr
theorem GrowF.next {w wr : World} {b : Nat} {h : Hd} {v : Value} {zs : List Int} (G : GrowF w b h v zs wr) : v.ownBlock ≠ some wr.heap.size := by
  intro h
  have := (World.ownsRow.lt G.own _ h).2
  omega
theorem GrowF.more {w wr w2 : World} {b : Nat} {h : Hd} {v v2 : Value} {zs zs2 : List Int} {o : Obj} (G : GrowF w b h v zs wr) (M : MoreI (wr.alloc o) w.heap.size v zs2 v2 w2) : GrowF w b h v2 zs2 w2 :=
  ⟨at_outF (G.hd.alloc o) M.2.1 G.far, M.1, more_far M (G.hd.alloc o).1 G.far, (G.new.alloc G.new.size o).trans (M.2.1.below (alloc_le G.new.size o) fun k hk => (World.ownsRow.lt G.own k hk).1)⟩
theorem GrowF.ls {w wr : World} {b : Nat} {h : Hd} {v : Value} {zs : List Int} (G : GrowF w b h v zs wr) : w.heap.size ≤ wr.heap.size := G.new.size
set_option maxRecDepth 100000 in
set_option maxHeartbeats 4000000 in
theorem encode_yes (h : Hd) (ok : HdOk h) (w : World) (hf : fitF h) :
    Calls Try.prog 38 #[.agg #[.int .u16 h.src, .int .u16 h.dst, .int .u32 h.seq, .int .u32 h.ack, .int .u8 h.off, .int .u8 h.ace, .int .u8 h.fl, .int .u16 h.win, .int .u16 h.sum, .int .u16 h.urg]] w (EncTo w h) := by
  have A := At.new w (hdV h) 27
  have L0 := Lib.hid (new_alloc (new_refl w) (.cells #[.int .u16 h.src, .int .u16 h.dst, .int .u32 h.seq, .int .u32 h.ack, .int .u8 h.off, .int .u8 h.ace, .int .u8 h.fl, .int .u16 h.win, .int .u16 h.sum, .int .u16 h.urg] 27))
  have h5 : 5 ≤ h.off := hf.1
  have hn := neq_cut h true ((cut_fit ok h5).2 hf)
  have d5 : decide (h.off < 5) = false := decide_eq_false (by omega)
  have OK := Lib.hid ok
  have HF := Lib.hid hf
  have c0 := A.cell 0 rfl
  have c1 := A.cell 1 rfl
  have c2 := A.cell 2 rfl
  have c3 := A.cell 3 rfl
  have c4 := A.cell 4 rfl
  have c5 := A.cell 5 rfl
  have c6 := A.cell 6 rfl
  have c7 := A.cell 7 rfl
  have c8 := A.cell 8 rfl
  have c9 := A.cell 9 rfl
  have mk : ∀ w, (Instr.makeSlice 32 (.int .i64 0) (.int .i64 20)).run Try.prog w = .ok (.slice (some ⟨w.heap.size, 0, none⟩) 0 20) (w.alloc (.cells (madeCells #[.int .u8 0] 20) 5)) := fun w => make_room elB 20 (by decide) w
  have hb : w.heap.size < (w.alloc (.cells #[.int .u16 h.src, .int .u16 h.dst, .int .u32 h.seq, .int .u32 h.ack, .int .u8 h.off, .int .u8 h.ace, .int .u8 h.fl, .int .u16 h.win, .int .u16 h.sum, .int .u16 h.urg] 27)).heap.size := A.1
  have HX2 : Hid (∀ y ∈ [h.src, h.dst], 0 ≤ y ∧ y ≤ 65535) := Lib.hid (by intro y hy; simp at hy; rcases hy with rfl | rfl; exact ok.src; exact ok.dst)
  have HX4 : Hid (∀ y ∈ [h.seq, h.ack], 0 ≤ y ∧ y ≤ 4294967295) := Lib.hid (by intro y hy; simp at hy; rcases hy with rfl | rfl; exact ok.seq; exact ok.ack)
  have HX3 : Hid (∀ y ∈ [h.win, h.sum, h.urg], 0 ≤ y ∧ y ≤ 65535) := Lib.hid (by intro y hy; simp at hy; rcases hy with rfl | rfl | rfl; exact ok.win; exact ok.sum; exact ok.urg)
  clear ok hf
  go_enter Try.func38, Try.ntmps38
  go_upto_region 1 with (fail)
  generalize w.alloc (.cells #[.int .u16 h.src, .int .u16 h.dst, .int .u32 h.seq, .int .u32 h.ack, .int .u8 h.off, .int .u8 h.ace, .int .u8 h.fl, .int .u16 h.win, .int .u16 h.sum, .int .u16 h.urg] 27) = W at A L0 hb c0 c1 c2 c3 c4 c5 c6 c7 c8 c9 ⊢
  go_region_held3 (fun w' => w'.cell? ⟨w.heap.size, 0, none⟩ = some (.int .u16 h.src) ∧ w'.cell? ⟨w.heap.size, 1, none⟩ = some (.int .u16 h.dst) ∧ w'.cell? ⟨w.heap.size, 2, none⟩ = some (.int .u32 h.seq) ∧ w'.cell? ⟨w.heap.size, 3, none⟩ = some (.int .u32 h.ack) ∧ w'.cell? ⟨w.heap.size, 4, none⟩ = some (.int .u8 h.off) ∧ w'.cell? ⟨w.heap.size, 5, none⟩ = some (.int .u8 h.ace) ∧ w'.cell? ⟨w.heap.size, 6, none⟩ = some (.int .u8 h.fl) ∧ w'.cell? ⟨w.heap.size, 7, none⟩ = some (.int .u16 h.win) ∧ w'.cell? ⟨w.heap.size, 8, none⟩ = some (.int .u16 h.sum) ∧ w'.cell? ⟨w.heap.size, 9, none⟩ = some (.int .u16 h.urg))
    (first | go_keep | exact ten_kept B1 (by assumption))
    (first
      | (go_at_call 63; refine (fitted_any h OK.out _).mono ?_; rintro e w1 ⟨rfl, B1⟩))
  all_goals
    clear c0 c1 c2 c3 c4 c5 c6 c7 c8 c9 hn d5
    replace B1 := new_undrew B1
    have hs1 := B1.size
    have A1 := A.kept B1
    have L1 := new_then L0.out B1
    have G0 := Lib.hid (GrowF.mk (h := h) (A1.alloc (.cells (madeCells #[.int .u8 0] 20) 5)) (OwnK.room (k := .u8) (e := 5) (n := 20) L1.size (by decide)) (by simp [Value.ownBlock]; omega) (new_alloc L1 _))
    clear A A1 L0 L1
    go_upto_region 4 with (fail)
    generalize w1.alloc (.cells (madeCells #[.int .u8 0] 20) 5) = X at G0 ⊢
    generalize w1.heap.size = g1 at G0 ⊢
    have c0 := G0.out.hd.cell 0 rfl
    have c1 := G0.out.hd.cell 1 rfl
    go_upto_region 5 with (first
      | (go_at_call 64; refine (put2_any w.heap.size X.heap.size 2 2 _ [] [h.src, h.dst] _ (G0.out.own.alloc _) (At.new X [.int .u16 h.src, .int .u16 h.dst] _) G0.out.next (alloc_le G0.out.ls _) rfl (by decide) (by decide) HX2.out).mono ?_; rintro e w2 ⟨v2, rfl, M2⟩))
    have G1 := Lib.hid (G0.out.more M2)
    have q1 : Hid (([] ++ twosF [h.src, h.dst]).length ≤ 500) := Lib.hid (show 4 ≤ 500 by decide)
    have q2 : Hid (([] ++ twosF [h.src, h.dst] ++ foursF [h.seq, h.ack]).length + [h.off * 16 + h.ace / 4, h.ace % 4 * 64 + h.fl].length ≤ 1000000000) := Lib.hid (show 12 + 2 ≤ 1000000000 by decide)
    have q3 : Hid (([] ++ twosF [h.src, h.dst] ++ foursF [h.seq, h.ack] ++ [h.off * 16 + h.ace / 4, h.ace % 4 * 64 + h.fl]).length ≤ 1000) := Lib.hid (show 14 ≤ 1000 by decide)
    clear M2 G0 c0 c1
    have c2 := G1.out.hd.cell 2 rfl
    have c3 := G1.out.hd.cell 3 rfl
    go_upto_region 6 with (first
      | (go_at_call 65; refine (put4_any w.heap.size w2.heap.size 2 2 _ _ [h.seq, h.ack] _ (G1.out.own.alloc _) (At.new w2 [.int .u32 h.seq, .int .u32 h.ack] _) G1.out.next (alloc_le G1.out.ls _) rfl (by decide) q1.out HX4.out).mono ?_; rintro e w3 ⟨v3, rfl, M3⟩))
    have G2 := Lib.hid (G1.out.more M3)
    clear M3 G1 c2 c3
    have c4 := G2.out.hd.cell 4 rfl
    have c5 := G2.out.hd.cell 5 rfl
    have c6 := G2.out.hd.cell 6 rfl
    obtain ⟨f1, f2, f3, f4⟩ := HF.out
    have o1 := OK.out.ace.1
    have o2 := OK.out.fl.1
    have e1 := and3F OK.out.ace
    have e2 := or16F (x := h.off) (y := h.ace / 4) (by omega) (by omega)
    have e3 := or64F (x := h.ace % 4) (y := h.fl) (by omega) (by omega)
    go_upto_region 7 with (first
      | (at_builtin; refine wp_catK elB (by rfl) _ _ (by rfl) w.heap.size _ ([] ++ twosF [h.src, h.dst] ++ foursF [h.seq, h.ack]) _ 2 2 [h.off * 16 + h.ace / 4, h.ace % 4 * 64 + h.fl] (by rfl) (by rfl) (two_src (At.new w3 [.int .u8 (h.off * 16 + h.ace / 4), .int .u8 (h.ace % 4 * 64 + h.fl)] _)) (G2.out.own.alloc _) q2.out (alloc_le G2.out.ls _) ?_; intro v4 w4 O4 N4 hat4))
    have G3 := Lib.hid (G2.out.more (more_grown O4 N4 hat4))
    clear O4 N4 hat4 G2 c4 c5 c6 e1 e2 e3
    have c7 := G3.out.hd.cell 7 rfl
    have c8 := G3.out.hd.cell 8 rfl
    have c9 := G3.out.hd.cell 9 rfl
    go_wp2_with (first
      | (go_at_call 64; refine (put2_any w.heap.size w4.heap.size 3 3 _ _ [h.win, h.sum, h.urg] _ (G3.out.own.alloc _) (At.new w4 [.int .u16 h.win, .int .u16 h.sum, .int .u16 h.urg] _) G3.out.next (alloc_le G3.out.ls _) rfl (by decide) q3.out HX3.out).mono ?_; rintro e w5 ⟨v5, rfl, M5⟩))
    have G4 := G3.out.more M5
    obtain ⟨g5, k5, rfl, _, _⟩ := G4.own.some (n := 20) rfl (by decide)
    go_ret2
    exact ⟨g5, k5, rfl, G4.own, G4.new⟩
end Go.Proofs.Ytnkcnfkonifmhaa
