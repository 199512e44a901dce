/- leatlaw19: a list of acknowledgements that came in; a sender beside the document's. -/
import Derived.Test.YtfoonfmhamaclaaFbkN
import Derived.Test.YtfoonfmhamaclaaFbkR
import Derived.Test.YtfoonfmhamaclaaKit
import Derived.Test.YtfoonfmhamaclaaRowK
namespace Go.Proofs.Ytfoonfmhamaclaa
open Go.ChangeShapes Go.WideShapes Go.ChangeAt Go.RowKit
set_option linter.unusedVariables false

theorem neqF3 (a b c : Int) (w : World) : (binOp .neq 25 (.agg #[.int .i64 a, .int .i64 b, .int .i64 c]) (.agg #[.int .i64 a, .int .i64 b, .int .i64 c])).run Try.prog w = .ok (.bool false) w := by
  obtain ⟨i, hi⟩ := Option.isSome_iff_exists.1 (show (Try.prog.info? 2).isSome = true by kernel_rfl)
  rw [run_neq_struct, show (10000 : Nat) = 9999 + 1 from rfl, run_equalIn_array w 9999 _ _ (show Try.prog.underlying 25 = some (.array 3 2) by kernel_rfl) hi]
  rw [show Try.prog.cellsOf 2 = 1 by kernel_rfl, show List.range 3 = [0, 1, 2] by decide]
  simp only [Op.eqItems]
  go_simp
theorem ak_at {w : World} {a : Option Addr} {len cap : Nat} (h : IsRows w a len cap 6 [(0, Sum.inl IntKind.i64), (1, Sum.inl IntKind.u32), (2, Sum.inl IntKind.u8), (3, Sum.inl IntKind.i64), (4, Sum.inl IntKind.i64), (5, Sum.inl IntKind.i64)]) (hp : 0 < len) :
    ∃ b off, a = some ⟨b, off, none⟩ ∧ ∀ i, i < len → ∃ k : Ak, OkA k ∧ w.cell? ⟨b, off + i * 6, none⟩ = some (.int .i64 k.u) ∧ w.cell? ⟨b, off + i * 6 + 1, none⟩ = some (.int .u32 k.s) ∧ w.cell? ⟨b, off + i * 6 + 2, none⟩ = some (.int .u8 k.c) ∧ w.cell? ⟨b, off + i * 6 + 3, none⟩ = some (.int .i64 k.t0) ∧ w.cell? ⟨b, off + i * 6 + 4, none⟩ = some (.int .i64 k.t1) ∧ w.cell? ⟨b, off + i * 6 + 5, none⟩ = some (.int .i64 k.t2) := by
  obtain ⟨b, off, rfl, _, _, h⟩ := rows_at h hp
  refine ⟨b, off, rfl, fun i hi => ?_⟩
  obtain ⟨u0, h0, x0, rfl, _⟩ := h i hi (0, .inl .i64) (by simp)
  obtain ⟨u1, h1, x1, rfl, q1⟩ := h i hi (1, .inl .u32) (by simp)
  obtain ⟨u2, h2, x2, rfl, q2⟩ := h i hi (2, .inl .u8) (by simp)
  obtain ⟨u3, h3, x3, rfl, q3⟩ := h i hi (3, .inl .i64) (by simp)
  obtain ⟨u4, h4, x4, rfl, q4⟩ := h i hi (4, .inl .i64) (by simp)
  obtain ⟨u5, h5, x5, rfl, q5⟩ := h i hi (5, .inl .i64) (by simp)
  have b1 := bounds_u32 q1
  have b2 := bounds_u8 q2
  have b3 := bounds_i64 q3
  have b4 := bounds_i64 q4
  have b5 := bounds_i64 q5
  exact ⟨⟨x0, x1, x2, x3, x4, x5⟩, ⟨by simp only []; omega, by simp only []; omega, by unfold int64F; simp only []; omega, by unfold int64F; simp only []; omega, by unfold int64F; simp only []; omega⟩, h0, h1, h2, h3, h4, h5⟩
structure TksAt (w : World) (b g : Nat) (s : Sn) (wr : World) : Prop where
  snd : SIn w b s wr
  want : Blk wr g (rfV s) 28
  apart : g ≠ b
  new : w.heap.size ≤ g
theorem TksAt.kept {w wr w' : World} {b g : Nat} {s : Sn} (h : TksAt w b g s wr) (B : Below wr.heap.size wr w') : TksAt w b g s w' := ⟨h.snd.kept B, h.want.kept B, h.apart, h.new⟩
theorem by_snd {w wr : World} {b g : Nat} {s : Sn} (h : TksAt w b g s wr) (p : BelowBy wr) : SnB p.now b s := Blk.kept h.snd.snd p.low
theorem tk_cases {n : Nat} {s : Sn} {a : Ak} (h : OkS n s) (k : OkA a) : (erK s a = 0 ∧ (tkK s a).m % 8 = a.c ∧ s.m ≤ (tkK s a).m ∧ (tkK s a).m ≤ s.m + 1099511627783) ∨ ((erK s a = 2 ∨ erK s a = 11) ∧ (tkK s a).m = s.m ∧ (tkK s a).f0 = s.f0 ∧ (tkK s a).f1 = s.f1 ∧ (tkK s a).f2 = s.f2) := by
  unfold tkK erK
  by_cases h1 : wrK a = true
  · rw [if_pos h1, if_pos h1]; exact .inr ⟨.inl rfl, rfl, rfl, rfl, rfl⟩
  · rw [if_neg h1, if_neg h1]
    by_cases h2 : frK s a = false
    · rw [if_pos h2, if_pos h2]; exact .inr ⟨.inr rfl, rfl, rfl, rfl, rfl⟩
    · rw [if_neg h2, if_neg h2]
      by_cases h3 : nwR a.s s.x s.t = true
      · rw [if_pos h3, if_pos h3]
        refine .inl ⟨rfl, nx_mod ⟨k.c.1, ?_⟩, (nx_bd h a).1, (nx_bd h a).2⟩
        unfold wrK at h1
        simp at h1
        omega
      · rw [if_neg h3, if_neg h3]; exact .inr ⟨.inr rfl, rfl, rfl, rfl, rfl⟩
theorem rfTake_out (n : Nat) (s : Sn) (a : Ak) (w : World) (hs : OkS n s) (ha : OkA a) :
    Calls Try.prog 9 #[.agg #[.int .i64 s.mss, .int .i64 s.m, .int .i64 s.ba, .int .i64 s.f0, .int .i64 s.f1, .int .i64 s.f2, .int .u32 s.x, .bool (decide (0 < s.t))], .agg #[.int .i64 a.u, .int .u32 a.s, .int .u8 a.c, .int .i64 a.t0, .int .i64 a.t1, .int .i64 a.t2]] w fun e w' => e = .returned (.tuple #[.agg #[.int .i64 (tkK s a).mss, .int .i64 (tkK s a).m, .int .i64 (tkK s a).ba, .int .i64 (tkK s a).f0, .int .i64 (tkK s a).f1, .int .i64 (tkK s a).f2, .int .u32 (tkK s a).x, .bool (decide (0 < (tkK s a).t))], .int .i64 ((tkK s a).m - s.m), .int .i64 (erK s a)]) ∧ Below w.heap.size w w' := rfTake_any n s a w hs ha
theorem tks_stored {w wr : World} {b g : Nat} {s s' : Sn} (h : SIn w b s' wr) (k : Blk wr g (rfV s) 28) (hn : w.heap.size ≤ g) (hg : g ≠ b) :
    TksAt w b g s' (((((((((wr.setCell ⟨g, 0, none⟩ (.int .i64 s'.mss)).setCell ⟨g, 1, none⟩ (.int .i64 s'.m)).setCell ⟨g, 2, none⟩ (.int .i64 s'.ba)).setCell ⟨g, 3, none⟩ (.int .i64 s'.f0)).setCell ⟨g, 4, none⟩ (.int .i64 s'.f1)).setCell ⟨g, 5, none⟩ (.int .i64 s'.f2)).setCell ⟨g, 6, none⟩ (.int .u32 s'.x)).setCell ⟨g, 7, none⟩ (.bool (decide (0 < s'.t))))) := by
  have F : ∀ {w1 : World} (j : Nat) (v : Value), SIn w b s' w1 → SIn w b s' (w1.setCell ⟨g, j, none⟩ v) := fun j v q => ⟨Blk.far q.snd (p := ⟨g, j, none⟩) hg.symm v, q.new, new_set q.low (p := ⟨g, j, none⟩) hn v⟩
  exact ⟨F _ _ (F _ _ (F _ _ (F _ _ (F _ _ (F _ _ (F _ _ (F _ _ h))))))), ((((((((k.set 0 (.int .i64 s'.mss)).set 1 (.int .i64 s'.m)).set 2 (.int .i64 s'.ba)).set 3 (.int .i64 s'.f0)).set 4 (.int .i64 s'.f1)).set 5 (.int .i64 s'.f2)).set 6 (.int .u32 s'.x)).set 7 (.bool (decide (0 < s'.t)))), hg, hn⟩
end Go.Proofs.Ytfoonfmhamaclaa
