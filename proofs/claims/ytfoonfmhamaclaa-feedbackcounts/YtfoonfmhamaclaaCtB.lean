/- leatlaw19.sent: the counts behind each packet, and whether the answer tells fields. -/
import Derived.Test.YtfoonfmhamaclaaCtA
import Derived.Test.YtfoonfmhamaclaaRowE
import Derived.Test.YtfoonfmhamaclaaKitP
namespace Go.Proofs.Ytfoonfmhamaclaa
open Go.ChangeShapes Go.WideShapes Go.ChangeAt Go.RowKit
set_option linter.unusedVariables false

theorem ctE_is : IsEnc ctV 4 := ⟨by decide, fun _ => rfl, fun x v hv => by simp [ctV] at hv; rcases hv with rfl | rfl | rfl | rfl <;> rfl⟩
theorem strCt : IsStr 47 51 (.agg #[.int .i64 0, .int .i64 0, .int .i64 0, .int .i64 0]) 4 32 := ⟨by kernel_rfl, by kernel_rfl, rfl, by decide⟩
def blV (b : Bool) : List Value := [.bool b]
theorem blE_is : IsEnc blV 1 := ⟨by decide, fun _ => rfl, fun x v hv => by simp [blV] at hv; subst hv; rfl⟩
theorem strBl : IsStr 44 4 (.bool false) 1 1 := ⟨by kernel_rfl, by kernel_rfl, rfl, by decide⟩
/-- Bools that are only read. -/
def LbT (w : World) (g : Nat) (A : Option Addr) (bs : List Bool) : Prop := bs = [] ∨ ∃ off, A = some ⟨g, off, none⟩ ∧ ∀ i, i < bs.length → w.cell? ⟨g, off + i, none⟩ = some (.bool (bs[i]?.getD false))
theorem LbT.kept {w w' : World} {g : Nat} {A : Option Addr} {bs : List Bool} (h : LbT w g A bs) (o : Below w.heap.size w w') : LbT w' g A bs := by
  rcases h with h | ⟨off, rfl, h⟩
  · exact .inl h
  · exact .inr ⟨off, rfl, fun i hi => cell_kept o (h i hi)⟩
theorem lbT_of {w : World} {a : Option Addr} {len cap : Nat} (h : IsRowsN w a len cap 1 [(0, .inr (.inl false))]) : ∃ g bs, bs.length = len ∧ LbT w g a bs := by
  by_cases h0 : len = 0
  · subst h0; exact ⟨0, [], rfl, .inl rfl⟩
  · obtain ⟨b, off, rfl, _, _, hc⟩ := rowsN_at h (by omega)
    have key : ∀ i, i < len → ∃ u : Bool, w.cell? ⟨b, off + i, none⟩ = some (.bool u) := by
      intro i hi
      obtain ⟨v, hv, hk⟩ := hc i hi (0, .inr (.inl false)) (by simp)
      obtain ⟨u, rfl⟩ : ∃ u, v = .bool u := by simpa [lfOk] using hk
      exact ⟨u, by simpa using hv⟩
    refine ⟨b, (List.range len).map fun i => (match w.cell? ⟨b, off + i, none⟩ with | some (.bool u) => u | _ => false), by simp, .inr ⟨off, rfl, fun i hi => ?_⟩⟩
    have hi' : i < len := by simpa using hi
    obtain ⟨u, hu⟩ := key i hi'
    rw [hu]
    simp [hi', hu]
def clsT (ks : List Int) (n : Int) (k : Nat) : List Ct := (List.range k).map fun j => cfT ks n (j + 1)
def blsT (bs : List Bool) (k : Nat) : List Bool := (List.range k).map fun j => bs[j]?.getD false
theorem clsT_succ (ks : List Int) (n : Int) (k : Nat) : clsT ks n (k + 1) = clsT ks n k ++ [cfT ks n (k + 1)] := by simp [clsT, List.range_succ]
theorem blsT_succ (bs : List Bool) (k : Nat) : blsT bs (k + 1) = blsT bs k ++ [bs[k]?.getD false] := by simp [blsT, List.range_succ]
theorem clsT_len (ks : List Int) (n : Int) (k : Nat) : (clsT ks n k).length = k := by simp [clsT]
theorem blsT_len (bs : List Bool) (k : Nat) : (blsT bs k).length = k := by simp [blsT]
structure SntAt (w wr : World) (ps : List Value) (c : Ct) (vA vB : Value) (la : List Ct) (lb : List Bool) : Prop where
  box : Blk wr w.heap.size ps 46
  cnt : Blk wr (w.heap.size + 1) (ctV c) 51
  ra : OwnE ctV 4 51 wr (w.heap.size + 2) vA la
  rb : OwnE blV 1 4 wr (w.heap.size + 2) vB lb
  apart : ∀ g, vA.ownBlock = some g → vB.ownBlock ≠ some g
  low : Below w.heap.size w wr
theorem snt_start (w : World) (ps : List Value) : SntAt w ((w.alloc (.cells ps.toArray 46)).alloc (.cells #[.int .i64 5, .int .i64 0, .int .i64 1, .int .i64 1] 51)) ps ⟨5, 0, 1, 1⟩ (.slice none 0 0) (.slice none 0 0) [] [] :=
  ⟨(Blk.new w ps _).alloc _, Blk.newAt (alloc_size _ _) (ctV ⟨5, 0, 1, 1⟩) _, OwnE.nil _ _ _ _ _, OwnE.nil _ _ _ _ _, (fun g h => by cases h), new_alloc (new_alloc (new_refl w) _) _⟩
/-- The count is stored anew, behind a call. -/
theorem snt_cnt {w wr w1 : World} {ps : List Value} {c d : Ct} {vA vB : Value} {la : List Ct} {lb : List Bool} (h : SntAt w wr ps c vA vB la lb) (B : Below wr.heap.size wr w1) :
    SntAt w ((((w1.setCell ⟨w.heap.size + 1, 0, none⟩ (.int .i64 d.cep)).setCell ⟨w.heap.size + 1, 1, none⟩ (.int .i64 d.ceb)).setCell ⟨w.heap.size + 1, 2, none⟩ (.int .i64 d.e0)).setCell ⟨w.heap.size + 1, 3, none⟩ (.int .i64 d.e1)) ps d vA vB la lb := by
  have h1 := h.ra.kept B
  have h2 := h.rb.kept B
  have o : Out (fun k => k = w.heap.size + 1) w1 ((((w1.setCell ⟨w.heap.size + 1, 0, none⟩ (.int .i64 d.cep)).setCell ⟨w.heap.size + 1, 1, none⟩ (.int .i64 d.ceb)).setCell ⟨w.heap.size + 1, 2, none⟩ (.int .i64 d.e0)).setCell ⟨w.heap.size + 1, 3, none⟩ (.int .i64 d.e1)) :=
    ((((Out.refl (fun k => k = w.heap.size + 1) _).set (p := ⟨w.heap.size + 1, 0, none⟩) (.inl rfl) _).set (p := ⟨w.heap.size + 1, 1, none⟩) (.inl rfl) _).set (p := ⟨w.heap.size + 1, 2, none⟩) (.inl rfl) _).set (p := ⟨w.heap.size + 1, 3, none⟩) (.inl rfl) _
  refine ⟨Blk.out (h.box.kept B) o (by simp), ((((h.cnt.kept B).set 0 (.int .i64 d.cep)).set 1 (.int .i64 d.ceb)).set 2 (.int .i64 d.e0)).set 3 (.int .i64 d.e1), h1.out o (fun g hg e => ?_), h2.out o (fun g hg e => ?_), h.apart, (new_then h.low B).trans (o.below (new_then h.low B).size (fun k hk => by omega))⟩
  · have := (World.ownsRow.lt h1 g hg).1; omega
  · have := (World.ownsRow.lt h2 g hg).1; omega
/-- A count is put behind. -/
theorem snt_a {w W w' : World} {ps : List Value} {c : Ct} {vA vB : Value} {la : List Ct} {lb : List Bool} {o : Obj} {gA n cap : Nat} {y : Ct} (h : SntAt w W ps c vA vB la lb)
    (O : OwnE ctV 4 51 w' (w.heap.size + 2) (.slice (some ⟨gA, 0, none⟩) n cap) (la ++ [y])) (G : (W.alloc o).grownBy w' vA.ownBlock) (hat : vA.ownBlock = some gA ∨ gA = (W.alloc o).heap.size) :
    SntAt w w' ps c (.slice (some ⟨gA, 0, none⟩) n cap) vB (la ++ [y]) lb := by
  have o := out_pushE G
  have q := fun g hg => World.ownsRow.lt h.ra g hg
  refine ⟨Blk.out (h.box.alloc _) o (fun e => by have := (q _ e).1; omega), Blk.out (h.cnt.alloc _) o (fun e => by have := (q _ e).1; omega), O, (h.rb.alloc _).out o (fun g hg e => h.apart g e hg), fun g hg hv => ?_, (new_alloc h.low _).trans (o.below (new_alloc h.low _).size (fun k hk => by have := (q _ hk).1; omega))⟩
  have e : gA = g := by simpa [Value.ownBlock] using hg
  subst e
  rcases hat with e | e
  · exact h.apart _ e hv
  · have := (World.ownsRow.lt h.rb _ hv).2
    rw [alloc_size] at e; omega
theorem snt_b {w W w' : World} {ps : List Value} {c : Ct} {vA vB : Value} {la : List Ct} {lb : List Bool} {o : Obj} {gB n cap : Nat} {y : Bool} (h : SntAt w W ps c vA vB la lb)
    (O : OwnE blV 1 4 w' (w.heap.size + 2) (.slice (some ⟨gB, 0, none⟩) n cap) (lb ++ [y])) (G : (W.alloc o).grownBy w' vB.ownBlock) (hat : vB.ownBlock = some gB ∨ gB = (W.alloc o).heap.size) :
    SntAt w w' ps c vA (.slice (some ⟨gB, 0, none⟩) n cap) la (lb ++ [y]) := by
  have o := out_pushE G
  have q := fun g hg => World.ownsRow.lt h.rb g hg
  refine ⟨Blk.out (h.box.alloc _) o (fun e => by have := (q _ e).1; omega), Blk.out (h.cnt.alloc _) o (fun e => by have := (q _ e).1; omega), (h.ra.alloc _).out o (fun g hg e => h.apart g hg e), O, fun g hg hv => ?_, (new_alloc h.low _).trans (o.below (new_alloc h.low _).size (fun k hk => by have := (q _ hk).1; omega))⟩
  have e : gB = g := by simpa [Value.ownBlock] using hv
  subst e
  rcases hat with e | e
  · exact h.apart _ hg e
  · have := (World.ownsRow.lt h.ra _ hg).2
    rw [alloc_size] at e; omega
end Go.Proofs.Ytfoonfmhamaclaa
