/- leatlaw19.FeedbackCounts: what lies in memory while answers come. -/
import Derived.Test.YtfoonfmhamaclaaCtC
import Derived.Test.YtfoonfmhamaclaaCtM
namespace Go.Proofs.Ytfoonfmhamaclaa
open Go.ChangeShapes Go.WideShapes Go.ChangeAt Go.RowKit
set_option linter.unusedVariables false

theorem rowT_kept {k : IntKind} {w w' : World} {a : Option Addr} {len cap : Nat} {zs : List Int} (h : IsRow k w a len cap zs) (o : Below w.heap.size w w') : IsRow k w' a len cap zs := by
  rcases h with h | ⟨x, h1, h2, h3, h4, h5, h6⟩
  · exact .inl h
  · exact .inr ⟨x, h1, h2, h3, h4, fun j hj => cell_kept o (h5 j hj), h6⟩
theorem cls_form {w : World} {base N : Nat} {v : Value} {ks : List Int} {n : Int} (h : OwnE ctV 4 51 w base v (clsT ks n N)) :
    ∃ A cap, v = .slice A N cap ∧ (0 < N → ∃ g, A = some ⟨g, 0, none⟩ ∧ g < w.heap.size ∧ ∀ i, i < N → w.cell? ⟨g, i * 4, none⟩ = some (.int .i64 (cfT ks n (i + 1)).cep) ∧ w.cell? ⟨g, i * 4 + 1, none⟩ = some (.int .i64 (cfT ks n (i + 1)).ceb) ∧ w.cell? ⟨g, i * 4 + 2, none⟩ = some (.int .i64 (cfT ks n (i + 1)).e0) ∧ w.cell? ⟨g, i * 4 + 3, none⟩ = some (.int .i64 (cfT ks n (i + 1)).e1)) := by
  have hl := clsT_len ks n N
  rcases h.form with ⟨rfl, h2⟩ | ⟨g, cap, rfl⟩
  · refine ⟨none, 0, ?_, fun h0 => ?_⟩
    · rw [h2] at hl; simp at hl; rw [← hl]
    · rw [h2] at hl; simp at hl; omega
  · rw [hl] at h ⊢
    refine ⟨_, cap, rfl, fun _ => ⟨g, rfl, (h.lt ctE_is).2, fun i hi => ?_⟩⟩
    have hi' : i < (clsT ks n N).length := by omega
    have e : (clsT ks n N)[i] = cfT ks n (i + 1) := by simp [clsT]
    exact ⟨h.cells ctE_is hi' (j := 0) (by rw [e]; rfl), h.cells ctE_is hi' (j := 1) (by rw [e]; rfl), h.cells ctE_is hi' (j := 2) (by rw [e]; rfl), h.cells ctE_is hi' (j := 3) (by rw [e]; rfl)⟩
theorem bls_form {w : World} {base N : Nat} {v : Value} {bs : List Bool} (h : OwnE blV 1 4 w base v (blsT bs N)) :
    ∃ A cap, v = .slice A N cap ∧ (0 < N → ∃ g, A = some ⟨g, 0, none⟩ ∧ g < w.heap.size ∧ ∀ i, i < N → w.cell? ⟨g, i, none⟩ = some (.bool (bs[i]?.getD false))) := by
  have hl := blsT_len bs N
  rcases h.form with ⟨rfl, h2⟩ | ⟨g, cap, rfl⟩
  · refine ⟨none, 0, ?_, fun h0 => ?_⟩
    · rw [h2] at hl; simp at hl; rw [← hl]
    · rw [h2] at hl; simp at hl; omega
  · rw [hl] at h ⊢
    refine ⟨_, cap, rfl, fun _ => ⟨g, rfl, (h.lt blE_is).2, fun i hi => ?_⟩⟩
    have hi' : i < (blsT bs N).length := by omega
    have e : (blsT bs N)[i] = bs[i]?.getD false := by simp [blsT]
    have := h.cells blE_is hi' (j := 0) (v := .bool (bs[i]?.getD false)) (by rw [e]; rfl)
    simpa using this
/-- The sender, the count behind the last answer that was taken, and the one that was told last. -/
structure PlyAt (W : World) (b gl gt : Nat) (s : Sn) (c d : Ct) (wr : World) : Prop where
  snd : SIn W b s wr
  last : Blk wr gl (ctV c) 51
  told : Blk wr gt (ctV d) 51
  nl : W.heap.size ≤ gl
  nt : W.heap.size ≤ gt
  lb : gl ≠ b
  tb : gt ≠ b
  lt' : gl ≠ gt
theorem PlyAt.kept {W wr w' : World} {b gl gt : Nat} {s : Sn} {c d : Ct} (h : PlyAt W b gl gt s c d wr) (B : Below wr.heap.size wr w') : PlyAt W b gl gt s c d w' := ⟨h.snd.kept B, h.last.kept B, h.told.kept B, h.nl, h.nt, h.lb, h.tb, h.lt'⟩
theorem PlyAt.took {W wr w' : World} {b gl gt : Nat} {s s' : Sn} {c d : Ct} (h : PlyAt W b gl gt s c d wr) (o : Out (fun j => j = b) wr w') (k : SIn W b s' w') : PlyAt W b gl gt s' c d w' := ⟨k, Blk.out h.last o h.lb, Blk.out h.told o h.tb, h.nl, h.nt, h.lb, h.tb, h.lt'⟩
/-- A block of one's own is written, of none of these. -/
theorem PlyAt.else {W wr : World} {b gl gt g : Nat} {s : Sn} {c d : Ct} (h : PlyAt W b gl gt s c d wr) (h0 : W.heap.size ≤ g) (h1 : g ≠ b) (h2 : g ≠ gl) (h3 : g ≠ gt) (j : Nat) (v : Value) : PlyAt W b gl gt s c d (wr.setCell ⟨g, j, none⟩ v) :=
  ⟨⟨Blk.far h.snd.snd (p := ⟨g, j, none⟩) h1.symm v, h.snd.new, new_set h.snd.low (p := ⟨g, j, none⟩) h0 v⟩, h.last.far (p := ⟨g, j, none⟩) h2.symm v, h.told.far (p := ⟨g, j, none⟩) h3.symm v, h.nl, h.nt, h.lb, h.tb, h.lt'⟩
theorem PlyAt.setLast {W wr : World} {b gl gt : Nat} {s : Sn} {c d : Ct} (h : PlyAt W b gl gt s c d wr) (y : Ct) :
    PlyAt W b gl gt s y d ((((wr.setCell ⟨gl, 0, none⟩ (.int .i64 y.cep)).setCell ⟨gl, 1, none⟩ (.int .i64 y.ceb)).setCell ⟨gl, 2, none⟩ (.int .i64 y.e0)).setCell ⟨gl, 3, none⟩ (.int .i64 y.e1)) := by
  have F : ∀ {w1 : World} (j : Nat) (v : Value), SIn W b s w1 → SIn W b s (w1.setCell ⟨gl, j, none⟩ v) := fun j v q => ⟨Blk.far q.snd (p := ⟨gl, j, none⟩) h.lb.symm v, q.new, new_set q.low (p := ⟨gl, j, none⟩) h.nl v⟩
  have G : ∀ {w1 : World} (j : Nat) (v : Value), Blk w1 gt (ctV d) 51 → Blk (w1.setCell ⟨gl, j, none⟩ v) gt (ctV d) 51 := fun j v q => q.far (p := ⟨gl, j, none⟩) h.lt'.symm v
  exact ⟨F _ _ (F _ _ (F _ _ (F _ _ h.snd))), (((h.last.set 0 (.int .i64 y.cep)).set 1 (.int .i64 y.ceb)).set 2 (.int .i64 y.e0)).set 3 (.int .i64 y.e1), G _ _ (G _ _ (G _ _ (G _ _ h.told))), h.nl, h.nt, h.lb, h.tb, h.lt'⟩
theorem PlyAt.setTold {W wr : World} {b gl gt : Nat} {s : Sn} {c d : Ct} (h : PlyAt W b gl gt s c d wr) (y : Ct) :
    PlyAt W b gl gt s c y ((((wr.setCell ⟨gt, 0, none⟩ (.int .i64 y.cep)).setCell ⟨gt, 1, none⟩ (.int .i64 y.ceb)).setCell ⟨gt, 2, none⟩ (.int .i64 y.e0)).setCell ⟨gt, 3, none⟩ (.int .i64 y.e1)) := by
  have F : ∀ {w1 : World} (j : Nat) (v : Value), SIn W b s w1 → SIn W b s (w1.setCell ⟨gt, j, none⟩ v) := fun j v q => ⟨Blk.far q.snd (p := ⟨gt, j, none⟩) h.tb.symm v, q.new, new_set q.low (p := ⟨gt, j, none⟩) h.nt v⟩
  have G : ∀ {w1 : World} (j : Nat) (v : Value), Blk w1 gl (ctV c) 51 → Blk (w1.setCell ⟨gt, j, none⟩ v) gl (ctV c) 51 := fun j v q => q.far (p := ⟨gt, j, none⟩) h.lt' v
  exact ⟨F _ _ (F _ _ (F _ _ (F _ _ h.snd))), G _ _ (G _ _ (G _ _ (G _ _ h.last))), (((h.told.set 0 (.int .i64 y.cep)).set 1 (.int .i64 y.ceb)).set 2 (.int .i64 y.e0)).set 3 (.int .i64 y.e1), h.nl, h.nt, h.lb, h.tb, h.lt'⟩
def PlyI (W : World) (b gl gt : Nat) (ks : List Int) (n : Int) (M gh : Nat) (ve vb vi : Value) (wr : World) : Prop :=
  ∃ (i l t : Nat) (ex : Bool) (s : Sn), vi = .int .i64 (i : Int) ∧ ve = .bool ex ∧ vb = .bool true ∧ M - i = gh ∧ i ≤ M ∧ i ≤ 100 ∧ OkS i s ∧ PF ks n l t ex s ∧ PlyAt W b gl gt s (cfT ks n l) (cfT ks n t) wr
/-- An answer that comes to the sender. -/
theorem SIn.takeN {W : World} {b i k : Nat} {s : Sn} {ks : List Int} {n : Int} (hs : OkS i s) (hi : i < 100) (wr : World) (h : SIn W b s wr) :
    Calls Try.prog 8 #[.pointer (some ⟨b, 0, none⟩), .agg #[.int .i64 0, .int .u32 (stp k), .int .u8 ((cfT ks n (k + 1)).cep % 8), .int .i64 (-1), .int .i64 (-1), .int .i64 (-1)]] wr (Taken19 W b ((tkK s (akN ks n k)).m - s.m) (erK s (akN ks n k)) (tkK s (akN ks n k)) wr) := h.take hs (akN_ok ks n k) hi
theorem SIn.takeT {W : World} {b i k : Nat} {s : Sn} {ks : List Int} {n : Int} (hs : OkS i s) (hi : i < 100) (wr : World) (h : SIn W b s wr) :
    Calls Try.prog 8 #[.pointer (some ⟨b, 0, none⟩), .agg #[.int .i64 0, .int .u32 (stp k), .int .u8 ((cfT ks n (k + 1)).cep % 8), .int .i64 ((cfT ks n (k + 1)).e0 % 16777216), .int .i64 ((cfT ks n (k + 1)).ceb % 16777216), .int .i64 ((cfT ks n (k + 1)).e1 % 16777216)]] wr (Taken19 W b ((tkK s (akT ks n k)).m - s.m) (erK s (akT ks n k)) (tkK s (akT ks n k)) wr) := h.take hs (akT_ok ks n k) hi
end Go.Proofs.Ytfoonfmhamaclaa
