/- Slices of integers of any kind that a call made itself: made, appended to, stored into; also within a region that draws its order. -/
import Derived.Test.YtimipikabedjnaaMem
import Derived.OwnWalk
import Derived.Deep.AppendLies
import Derived.Deep.LoopGhost
import Derived.Laws.OwnMore
import Derived.Deep.Onto
import Derived.Deep.OwnRows
import Derived.Deep.RegionHeld3
namespace Go.Proofs.Ytimipikabedjnaa
open Go.RowKit
set_option linter.unusedVariables false

/-- t is a slice of e, and e an integer of kind k, of so many bytes. -/
structure IsElem (k : IntKind) (t e : TypeId) (bytes : Nat) : Prop where
  und : Try.prog.underlying t = some (.slice e)
  info : (Try.prog.info? e).map (fun i => (i.zero, i.size, i.bytes)) = some (some (.int k 0), 1, bytes)
  le : bytes ≤ 8

/-- The slice v holds the numbers zs, in a row of its own among the blocks from 'base' on. -/
def OwnK (k : IntKind) (e : TypeId) (w : World) (base : Nat) (v : Value) (zs : List Int) : Prop := w.ownsRow base e 1 v zs.length (zs.map (Value.int k))

section
variable {k : IntKind} {t e : TypeId} {bytes : Nat}
theorem OwnK.nil (k : IntKind) (e : TypeId) (w : World) (base : Nat) : OwnK k e w base (.slice none 0 0) [] := World.ownsRow_nil _ _ _ _
theorem OwnK.mono {w : World} {base base' : Nat} {v : Value} {zs : List Int} (h : OwnK k e w base v zs) (hb : base' ≤ base) : OwnK k e w base' v zs := World.ownsRow.mono h hb
theorem OwnK.alloc {w : World} {base : Nat} {v : Value} {zs : List Int} (h : OwnK k e w base v zs) (o : Obj) : OwnK k e (w.alloc o) base v zs := World.ownsRow.alloc h o
theorem OwnK.draw {w : World} {base : Nat} {v : Value} {zs : List Int} (h : OwnK k e w base v zs) (n : Nat) : OwnK k e (w.drewN n) base v zs := h
theorem OwnK.drew {w : World} {base : Nat} {v : Value} {zs : List Int} (h : OwnK k e w base v zs) : OwnK k e w.drew base v zs := h
theorem OwnK.out {F : Nat → Prop} {w w' : World} {base : Nat} {v : Value} {zs : List Int} (h : OwnK k e w base v zs) (o : Out F w w') (hF : ∀ g, v.ownBlock = some g → ¬ F g) : OwnK k e w' base v zs := by
  refine ⟨h.1, ?_⟩
  rcases h.2 with h' | ⟨g, cap, cur, h1, h2, h3, h4⟩
  · exact .inl h'
  · have hg : g < w.heap.size := Blk.lt (vs := cur.toList) (t := e) (by simpa [Blk] using h3)
    exact .inr ⟨g, cap, cur, h1, h2, (o.block g hg (hF g (by rw [h1]; rfl))).trans h3, h4⟩
theorem OwnK.kept {w w' : World} {base : Nat} {v : Value} {zs : List Int} (h : OwnK k e w base v zs) (hb : Below w.heap.size w w') : OwnK k e w' base v zs := h.out (F := fun _ => False) (Out.of hb _) (fun _ _ h => h)
/-- Its block, whole. -/
theorem OwnK.blk {w : World} {base g n cap : Nat} {zs : List Int} (h : OwnK k e w base (.slice (some ⟨g, 0, none⟩) n cap) zs) : n = zs.length ∧ n ≤ cap ∧ cap ≤ maxLen ∧ base ≤ g ∧ ∃ cur, cur.length = cap ∧ Blk w g cur e ∧ cur.take n = zs.map (Value.int k) := by
  rcases h.2 with ⟨h', _⟩ | ⟨g', cap', cur, h1, h2, h3, h4, h5, h6, h7⟩
  · cases h'
  · simp only [Value.slice.injEq, Option.some.injEq, Addr.mk.injEq, and_true] at h1
    obtain ⟨rfl, rfl, rfl⟩ := h1
    exact ⟨rfl, h4, h5, h2, cur.toList, by simpa using h6, by simpa [Blk] using h3, by simpa using h7⟩
theorem OwnK.at_ {w : World} {base g n cap : Nat} {zs : List Int} (h : OwnK k e w base (.slice (some ⟨g, 0, none⟩) n cap) zs) : At w g (zs.map (Value.int k)) := by
  obtain ⟨rfl, _, _, _, cur, hl, hb, ht⟩ := h.blk
  refine ⟨hb.lt, fun i v hv => hb.cell i ?_⟩
  rw [← ht, List.getElem?_take] at hv
  split at hv
  · exact hv
  · cases hv
theorem OwnK.cell {w : World} {base g n cap : Nat} {zs : List Int} (h : OwnK k e w base (.slice (some ⟨g, 0, none⟩) n cap) zs) {i : Nat} (hi : i < zs.length) : w.cell? ⟨g, i, none⟩ = some (.int k (zs[i]?.getD 0)) :=
  h.at_.cell i (by simp [List.getElem?_map, List.getElem?_eq_getElem hi])

/-- 'make([]T, n)'. -/
theorem make_k (E : IsElem k t e bytes) (n : Nat) (h : n ≤ 1000000) (w : World) :
    (Instr.makeSlice t (.int .i64 (n : Int)) (.int .i64 (n : Int))).run Try.prog w = .ok (.slice (some ⟨w.heap.size, 0, none⟩) n n) (w.alloc (.cells (madeCells #[.int k 0] n) e)) :=
  run_make_row' t e (.int k 0) bytes E.und E.info rfl .i64 .i64 n (by have := Nat.mul_le_mul E.le h; omega) (by omega) w
/-- 'make([]T, 0, n)'. -/
theorem make_room (E : IsElem k t e bytes) (n : Nat) (h : n ≤ 1000000) (w : World) :
    (Instr.makeSlice t (.int .i64 0) (.int .i64 (n : Int))).run Try.prog w = .ok (.slice (some ⟨w.heap.size, 0, none⟩) 0 n) (w.alloc (.cells (madeCells #[.int k 0] n) e)) := by
  obtain ⟨i, hi, hzz⟩ := Option.map_eq_some_iff.1 E.info
  simp only [Prod.mk.injEq] at hzz
  obtain ⟨hz, hs, hb⟩ := hzz
  have hb' : (i.bytes : Int) * (n : Int) ≤ 281474976710656 := by
    have h1 : i.bytes * n ≤ 8 * 1000000 := Nat.mul_le_mul (by rw [hb]; exact E.le) h
    have h2 : ((i.bytes * n : Nat) : Int) ≤ 281474976710656 := by omega
    rwa [Int.natCast_mul] at h2
  have hr := run_make (P := Try.prog) w t e i _ E.und hi hz .i64 .i64 0 (n : Int) (Int.le_refl _) (by omega) hb' (by omega)
  simp only [Int.toNat_zero, Int.toNat_natCast, hs, Nat.mul_one] at hr
  exact hr
theorem madeL (k : IntKind) (n : Nat) : madeCells #[.int k 0] n = ((List.replicate n (0 : Int)).map (Value.int k)).toArray := by
  apply Array.toList_inj.1
  rw [toList_madeCells_one]; simp
theorem OwnK.room {w : World} {base n : Nat} (hb : base ≤ w.heap.size) (h : n ≤ 1000000) : OwnK k e (w.alloc (.cells (madeCells #[.int k 0] n) e)) base (.slice (some ⟨w.heap.size, 0, none⟩) 0 n) [] :=
  World.ownsRow_made w _ n hb (by unfold maxLen; omega) (by rw [size_madeCells]; omega)

theorem wp_pushK (E : IsElem k t e bytes) {ops : Array Oper} {rest : List Oper} {o : Oper} {a : Act} {Q : Exit → Act → World → Prop} {W : World} (hgd : o.guard = none) (s x : Operand)
    (ho : o.op = .call { callee := .builtin .append, args := #[s, x], argTypes := #[t, t] })
    (base : Nat) (v : Value) (zs : List Int) (z : Int) (nb cb : Nat) (hs : a.eval s = v) (hx : a.eval x = .slice (some ⟨nb, 0, none⟩) 1 cb) (hz : W.cell? ⟨nb, 0, none⟩ = some (.int k z)) (hown : OwnK k e W base v zs) (n1 : Nat) (hn1 : zs.length + 1 = n1) (hlen : n1 ≤ 1000000000) (hbase : base ≤ W.heap.size) (H : Nat) (hH : W.heap.size = H)
    (h : ∀ g cap w', OwnK k e w' base (.slice (some ⟨g, 0, none⟩) n1 cap) (zs ++ [z]) → W.grownBy w' v.ownBlock → (v.ownBlock = some g ∨ g = H) → g < w'.heap.size → wpList Try.prog ops Q rest (a.put o.dst (.slice (some ⟨g, 0, none⟩) n1 cap)) w') :
    wpList Try.prog ops Q (o :: rest) a W := by
  obtain ⟨i0, hi, hz0, hz1, hz2⟩ := info_parts E.info
  refine wpList_append_lies _ hgd s x t ho base e i0 (.int k 0) 1 bytes E.und hi hz0 hz1 hz2 rfl (by decide) v zs.length (zs.map (Value.int k)) hs hown ⟨nb, 0, none⟩ 1 cb [.int k z] hx rfl ?_ ?_ (by decide) ?_ ?_ hbase H hH ?_
  · intro j u hj
    match j, hj with
    | 0, hj => simp at hj; subst hj; exact hz
  · intro u hu; simp at hu; subst hu; rfl
  · unfold maxLen; omega
  · have := Nat.mul_le_mul (show zs.length + 1 ≤ 1000000000 by omega) E.le; omega
  · intro g cap w' h1 h2 h3 h4
    rw [hn1] at h1 ⊢
    refine h g cap w' ?_ h2 h3 h4
    unfold OwnK; rw [List.map_append, List.length_append, show zs.length + [z].length = n1 from hn1]; exact h1

/-- The same as a step of a region that draws its order. -/
theorem step_pushK (E : IsElem k t e bytes) {ops : Array Oper} {o : Oper} {a : Act} {K : Act → World → Prop} {Q : Exit → Act → World → Prop} {X : Prop} {W : World} (hgd : o.guard = none) (s x : Operand)
    (ho : o.op = .call { callee := .builtin .append, args := #[s, x], argTypes := #[t, t] })
    (base : Nat) (v : Value) (zs : List Int) (z : Int) (nb cb : Nat) (hs : a.eval s = v) (hx : a.eval x = .slice (some ⟨nb, 0, none⟩) 1 cb) (hz : W.cell? ⟨nb, 0, none⟩ = some (.int k z)) (hown : OwnK k e W base v zs) (n1 : Nat) (hn1 : zs.length + 1 = n1) (hlen : n1 ≤ 1000000000) (hbase : base ≤ W.heap.size) (H : Nat) (hH : W.heap.size = H)
    (h : ∀ g cap w', OwnK k e w' base (.slice (some ⟨g, 0, none⟩) n1 cap) (zs ++ [z]) → W.grownBy w' v.ownBlock → (v.ownBlock = some g ∨ g = H) → g < w'.heap.size → K (a.put o.dst (.slice (some ⟨g, 0, none⟩) n1 cap)) w') :
    if Region.wanted o (yielded ops a.tmps) = true then Oper.wp Try.prog o a W K Q else X := by
  obtain ⟨i0, hi, hz0, hz1, hz2⟩ := info_parts E.info
  refine step_append_lies _ hgd s x t ho base e i0 (.int k 0) 1 bytes E.und hi hz0 hz1 hz2 rfl (by decide) v zs.length (zs.map (Value.int k)) hs hown ⟨nb, 0, none⟩ 1 cb [.int k z] hx rfl ?_ ?_ (by decide) ?_ ?_ hbase H hH ?_
  · intro j u hj
    match j, hj with
    | 0, hj => simp at hj; subst hj; exact hz
  · intro u hu; simp at hu; subst hu; rfl
  · unfold maxLen; omega
  · have := Nat.mul_le_mul (show zs.length + 1 ≤ 1000000000 by omega) E.le; omega
  · intro g cap w' h1 h2 h3 h4
    rw [hn1] at h1 ⊢
    refine h g cap w' ?_ h2 h3 h4
    unfold OwnK; rw [List.map_append, List.length_append, show zs.length + [z].length = n1 from hn1]; exact h1
/-- Numbers that are read: nil, or they lie from an address on. -/
def Src (k : IntKind) (w : World) (A : Option Addr) (m c : Nat) (ys : List Int) : Prop :=
  m = ys.length ∧ ((A = none ∧ m = 0 ∧ c = 0) ∨ ∃ a, A = some a ∧ ∀ j, j < ys.length → w.cell? (a.add j) = some (.int k (ys[j]?.getD 0)))
theorem Src.kept {k : IntKind} {w w' : World} {A : Option Addr} {m c : Nat} {ys : List Int} (h : Src k w A m c ys) (o : Below w.heap.size w w') : Src k w' A m c ys := by
  obtain ⟨rfl, h⟩ := h
  refine ⟨rfl, ?_⟩
  rcases h with h | ⟨a, rfl, h⟩
  · exact .inl h
  · exact .inr ⟨a, rfl, fun j hj => cell_kept o (h j hj)⟩
theorem run_catK (E : IsElem k t e bytes) (ty : TypeId) (W : World) (base : Nat) (v : Value) (zs : List Int) (A : Option Addr) (m c : Nat) (ys : List Int) (hown : OwnK k e W base v zs) (hs : Src k W A m c ys) (hlen : zs.length + ys.length ≤ 1000000000) (hbase : base ≤ W.heap.size) :
    ∃ v' w', (Builtin.append_ #[t, t] ty #[v, .slice A m c]).run Try.prog W = .ok v' w' ∧ OwnK k e w' base v' (zs ++ ys) ∧ W.grownBy w' v.ownBlock ∧ (v'.ownBlock = v.ownBlock ∨ v'.ownBlock = some W.heap.size) := by
  obtain ⟨i0, hi, hz0, hz1, hz2⟩ := info_parts E.info
  obtain ⟨rfl, hs⟩ := hs
  rcases hs with ⟨rfl, h0, rfl⟩ | ⟨a, rfl, hc⟩
  · obtain rfl : ys = [] := List.eq_nil_of_length_eq_zero h0
    exact ⟨v, W, run_append_owned_none (P := Try.prog) (w := W) base t ty e i0 1 E.und hi v _ _ hown, by simpa using hown, ⟨rfl, rfl, rfl, Nat.le_refl _, fun _ _ _ => rfl⟩, .inl rfl⟩
  · obtain ⟨v', w', h1, h2, h3, _, h5⟩ := run_append_own_at (P := Try.prog) W base t ty e i0 (.int k 0) 1 bytes E.und hi hz0 hz1 hz2 rfl (by decide) v zs.length (zs.map (Value.int k)) hown a ys.length c (ys.map (Value.int k)) (by simp)
      (fun j u hj => by
        rw [List.getElem?_map] at hj
        obtain ⟨z, hz, rfl⟩ := Option.map_eq_some_iff.1 hj
        have hlt : j < ys.length := (List.getElem?_eq_some_iff.1 hz).1
        rw [hc j hlt, hz]; rfl)
      (fun u hu => by
        rw [List.mem_map] at hu
        obtain ⟨z, _, rfl⟩ := hu
        rfl)
      (by unfold maxLen; omega) (by have := Nat.mul_le_mul hlen E.le; omega) hbase
    refine ⟨v', w', h1, ?_, h3, h5⟩
    unfold OwnK
    rw [List.length_append, List.map_append]
    exact h2
/-- 'append(out, more...)' as a step of a region that draws its order. -/
theorem step_catK (E : IsElem k t e bytes) {ops : Array Oper} {o : Oper} {a : Act} {K : Act → World → Prop} {Q : Exit → Act → World → Prop} {X : Prop} {W : World} (hgd : o.guard = none) (s x : Operand)
    (ho : o.op = .call { callee := .builtin .append, args := #[s, x], argTypes := #[t, t] })
    (base : Nat) (v : Value) (zs : List Int) (A : Option Addr) (m c : Nat) (ys : List Int) (hs : a.eval s = v) (hx : a.eval x = .slice A m c) (hsrc : Src k W A m c ys) (hown : OwnK k e W base v zs) (hlen : zs.length + ys.length ≤ 1000000000) (hbase : base ≤ W.heap.size) (H : Nat) (hH : W.heap.size = H)
    (h : ∀ v' w', OwnK k e w' base v' (zs ++ ys) → W.grownBy w' v.ownBlock → (v'.ownBlock = v.ownBlock ∨ v'.ownBlock = some H) → K (a.put o.dst v') w') :
    if Region.wanted o (yielded ops a.tmps) = true then Oper.wp Try.prog o a W K Q else X := by
  have hw : Region.wanted o (yielded ops a.tmps) = true := by simp [Region.wanted, hgd]
  rw [if_pos hw]
  obtain ⟨v', w', hr, h2, h3, h4⟩ := run_catK E o.type W base v zs A m c ys hown hsrc hlen hbase
  unfold Oper.wp execOp
  simp only [ho, resolve, invoke, builtin, Sem.run_bind, Sem.run_pure, Result.andThen_ok, List.map_toArray, List.map_cons, List.map_nil, hs, hx, hr]
  exact h v' w' h2 h3 (by rw [← hH]; exact h4)
/-- Behind an append: nothing below 'base' has turned. -/
theorem below_push {W w' : World} {base : Nat} {v : Value} {zs : List Int} (hown : OwnK k e W base v zs) (hg : W.grownBy w' v.ownBlock) (hbase : base ≤ W.heap.size) : Below base W w' :=
  (Below.refl _ _).grown hg hbase (fun j hj => (World.ownsRow.lt hown j hj).1)
theorem push_below {wr w' : World} {base m : Nat} {v : Value} {zs : List Int} {o : Obj} (hown : OwnK k e wr base v zs) (hg : ((wr.drewN m).alloc o).grownBy w' v.ownBlock) (hbase : base ≤ wr.heap.size) : Below base wr w' :=
  Below.trans (Below.alloc (w := wr.drewN m) (new_draw (Below.refl base wr) m) hbase o) (below_push ((hown.draw m).alloc o) hg (alloc_le (W := wr.drewN m) hbase o))
end
theorem cell_low {B : Nat} {w w' : World} {p : Addr} {v : Value} (hb : Below B w w') (hp : p.block < B) (h : w.cell? p = some v) : w'.cell? p = some v := (hb.cell hp).trans h
end Go.Proofs.Ytimipikabedjnaa
