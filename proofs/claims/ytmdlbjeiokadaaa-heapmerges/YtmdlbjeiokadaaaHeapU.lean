/- Package heap: Merge. -/
import Derived.Test.YtmdlbjeiokadaaaHeapT
import Derived.LaidEqlPtr
namespace Go.Proofs.Ytmdlbjeiokadaaa
open Go.RowKit
set_option linter.unusedVariables false

/-- Pushed one by one. -/
def pushAll : List Wt → Int → List Ev → List Wt
  | L, _, [] => L
  | L, p, x :: xs => pushAll (ins L (x.wt p)) (p + 1) xs
theorem pushAll_snoc : ∀ (xs : List Ev) (L : List Wt) (p : Int) (x : Ev), pushAll L p (xs ++ [x]) = ins (pushAll L p xs) (x.wt (p + xs.length))
  | [], L, p, x => by simp [pushAll]
  | y :: xs, L, p, x => by
    rw [List.cons_append, pushAll, pushAll_snoc xs, pushAll, List.length_cons]
    congr 2
    omega
theorem pushAll_next {L : List Wt} {p : Int} {E : List Ev} {k : Nat} {x : Ev} (hk : k < E.length) (hx : nthE E k = x) : pushAll L p (E.take (k + 1)) = ins (pushAll L p (E.take k)) (x.wt (p + k)) := by
  rw [List.take_succ_eq_append_getElem hk, ← nthE_eq hk, hx, pushAll_snoc]
  congr 2
  rw [List.length_take]
  omega
theorem pushAll_len : ∀ (xs : List Ev) (L : List Wt) (p : Int), (pushAll L p xs).length = L.length + xs.length
  | [], L, p => by simp [pushAll]
  | y :: xs, L, p => by rw [pushAll, pushAll_len xs, ins_len, List.length_cons]; omega
/-- The same of the document's list. -/
def pushAllE (L : List Ev) (xs : List Ev) : List Ev := xs.foldl insE L
theorem pushAll_ev : ∀ (xs : List Ev) (L : List Wt) (p : Int), (pushAll L p xs).map Wt.ev = pushAllE (L.map Wt.ev) xs
  | [], L, p => rfl
  | y :: xs, L, p => by
    rw [pushAll, pushAll_ev xs, ins_ev]
    rfl
theorem pushAllE_next {L E : List Ev} {k : Nat} {x : Ev} (hk : k < E.length) (hx : nthE E k = x) : pushAllE L (E.take (k + 1)) = insE (pushAllE L (E.take k)) x := by
  rw [List.take_succ_eq_append_getElem hk, ← nthE_eq hk, hx, pushAllE, List.foldl_append]
  rfl

theorem info_heap : ∃ j, Try.prog.info? 52 = some j ∧ j.size = 2 := by
  have h : (Try.prog.info? 52).map (·.size) = some 2 := by kernel_rfl
  obtain ⟨j, h1, h2⟩ := Option.map_eq_some_iff.1 h
  exact ⟨j, h1, h2⟩
theorem same_ptr (w : World) (a : Addr) : (binOp .eql 23 (.pointer (some a)) (.pointer (some a))).run Try.prog w = .ok (.bool true) w := by
  obtain ⟨j, h1, _⟩ := info_heap
  exact run_eql_ptr_same w a Try.underlying23 h1
theorem other_ptr {w : World} {b c : Nat} {us vs : List Value} {s t : TypeId} (hb : Blk w b us s) (hc : Blk w c vs t) (hne : b ≠ c) : (binOp .eql 23 (.pointer (some ⟨b, 0, none⟩)) (.pointer (some ⟨c, 0, none⟩))).run Try.prog w = .ok (.bool false) w := by
  obtain ⟨j, h1, h2⟩ := info_heap
  exact run_eql_ptr_other w Try.underlying23 h1 (by omega) (fun e => hne (congrArg Addr.block e)) hb hc
theorem merge_self (b : Nat) (w : World) :
    Calls Try.prog 18 #[.pointer (some ⟨b, 0, none⟩), .pointer (some ⟨b, 0, none⟩)] w fun e w' => e = .returned (.int .i64 0) ∧ w = w' := by
  have hq := same_ptr w ⟨b, 0, none⟩
  go_enter Try.func18, Try.ntmps18
  go_wp2_with fail
  go_ret
  exact ⟨rfl, rfl⟩
theorem merge_nil (b : Nat) (w : World) :
    Calls Try.prog 18 #[.pointer (some ⟨b, 0, none⟩), .pointer none] w fun e w' => e = .returned (.int .i64 0) ∧ w = w' := by
  go_enter Try.func18, Try.ntmps18
  go_wp2_with fail
  go_ret
  exact ⟨rfl, rfl⟩
theorem merge_into (a : Option Addr) (w : World) :
    Calls Try.prog 18 #[.pointer none, .pointer a] w fun e w' => e = .returned (.int .i64 0) ∧ w = w' := by
  go_enter Try.func18, Try.ntmps18
  go_wp2_with fail
  go_ret
  exact ⟨rfl, rfl⟩

theorem IsHeap.blk {w : World} {b g : Nat} {L : List Wt} {p : Int} (h : IsHeap w b g L p) : ∃ V, Blk w b [V, .int .i64 p] 52 := by
  rcases h.1 with ⟨hB, _, _⟩ | ⟨n, c, zs, hh, _, _⟩
  · exact ⟨_, hB⟩
  · exact ⟨_, hh.1⟩
theorem own_fourH {w : World} {base g n c : Nat} {E : List Ev} (h : OwnH w base (.slice (some ⟨g, 0, none⟩) n c) E) {i : Nat} (hi : i < E.length) : Four w g (i * 4) (nthE E i) := by
  rw [nthE_eq hi]
  exact ⟨h.cells encE_is hi (j := 0) rfl, h.cells encE_is hi (j := 1) rfl, h.cells encE_is hi (j := 2) rfl, h.cells encE_is hi (j := 3) rfl⟩
/-- What Merge may write. -/
def footM (bx gx by' : Nat) (k : Nat) : Prop := footH bx gx k ∨ k = by'
def MergeInv (w : World) (bx gx by' gy ge N : Nat) (LX LY : List Wt) (pX pY : Int) (gh : Nat) (vi : Value) (wr : World) : Prop :=
  ∃ k g1 : Nat, vi = .int .i64 (k : Int) ∧ N - k = gh ∧ k ≤ N ∧ IsHeap wr bx g1 (pushAll LX pX ((LY.map Wt.ev).take k)) (pX + k) ∧ IsHeap wr by' gy LY pY ∧ (∀ i, i < N → Four wr ge (i * 4) (nthE (LY.map Wt.ev) i)) ∧ ge ≠ g1 ∧ (g1 = gx ∨ w.heap.size ≤ g1) ∧ Out (footH bx gx) w wr
/-- Behind Merge. -/
def MergeTo (w : World) (bx gx by' gy N : Nat) (LX LY : List Wt) (pX pY : Int) (e : Ending) (w' : World) : Prop :=
  ∃ g1, e = .returned (.int .i64 (N : Int)) ∧ IsHeap w' bx g1 (pushAll LX pX (LY.map Wt.ev)) (pX + N) ∧ IsHeap w' by' gy [] pY ∧ (g1 = gx ∨ w.heap.size ≤ g1) ∧ Out (footM bx gx by') w w'
set_option maxRecDepth 100000 in
set_option maxHeartbeats 1000000 in
theorem merge_two (bx gx by' gy N : Nat) (LX LY : List Wt) (pX pY : Int) (w : World) (hX : IsHeap w bx gx LX pX) (hY : IsHeap w by' gy LY pY) (n1 : bx ≠ by') (n2 : gx ≠ by') (n3 : gy ≠ bx) (n4 : gx ≠ gy) (hN : LY.length = N) (hp : pX + (N : Int) ≤ 1000000) :
    Calls Try.prog 18 #[.pointer (some ⟨bx, 0, none⟩), .pointer (some ⟨by', 0, none⟩)] w (MergeTo w bx gx by' gy N LX LY pX pY) := by
  have HS := Lib.hid (sortedH by' gy N LY pY w hY hN)
  have hq : (binOp .eql 23 (.pointer (some ⟨bx, 0, none⟩)) (.pointer (some ⟨by', 0, none⟩))).run Try.prog w = .ok (.bool false) w := by
    obtain ⟨V1, hb1⟩ := hX.blk
    obtain ⟨V2, hb2⟩ := hY.blk
    exact other_ptr hb1 hb2 n1
  have lx := hX.lt
  have ly := hY.lt
  have hNE : (LY.map Wt.ev).length = N := by rw [List.length_map]; exact hN
  have HN := Lib.hid hNE
  have HX := Lib.hid hX
  have HY := Lib.hid hY
  have hN6 : N ≤ 1000000 := by have := hY.2.2.2; omega
  have n0 : (0 : Int) ≤ (N : Int) := by omega
  clear hX hY hN hNE
  go_enter Try.func18, Try.ntmps18
  go_wp2_with (first
    | (go_at_call 19; refine HS.out.mono ?_; rintro e w1 ⟨ge, ce, rfl, O1, B1⟩))
  have hge := O1.lt encE_is
  have S0 : Hid (MergeInv w bx gx by' gy ge N LX LY pX pY N (.int .i64 0) w1) := Lib.hid ⟨0, gx, rfl, rfl, by omega, by simpa [pushAll] using HX.out.kept B1, HY.out.kept B1, fun i hi => own_fourH O1 (by rw [HN.out]; exact hi), by omega, .inl rfl, Out.of B1 _⟩
  clear HS O1 HX HY
  go_loopg [23] N (fun gh vi wr => MergeInv w bx gx by' gy ge N LX LY pX pY gh vi wr)
  case atStart => exact S0.out
  case round =>
    clear S0
    obtain ⟨k, g1, rfl, rfl, hk, hX, hY, hF, hg1, hg2, o⟩ := hrel
    by_cases hlt : k < N
    · obtain ⟨a0, a1, a2, a3⟩ := hF k hlt
      generalize hx : nthE (LY.map Wt.ev) k = x at a0 a1 a2 a3
      have HX := Lib.hid hX
      have HY := Lib.hid hY
      have HF4 := Lib.hid hF
      have HXk := Lib.hid hx
      have k0 : (0 : Int) ≤ (k : Int) := by omega
      have k1 : (k : Int) < (N : Int) := by omega
      have hpk : pX + (k : Int) < 1000000 := by omega
      have hger : ge < wr.heap.size := World.block_lt_of_cell? wr _ a0
      have BA := new_alloc (new_refl wr) (.cells #[.int .i64 x.a, .int .i64 x.k, .int .i64 x.f, .int .i64 x.n] 27)
      clear hx hX hY hF
      go_wp2_with (first
        | (go_at_call 12; refine (pushH bx g1 x _ _ _ (HX.out.kept BA) hpk).mono ?_; rintro e w2 ⟨g2, rfl, H2, hg3, o2⟩))
      go_roundg (N - (k + 1))
      case measure => omega
      case rel =>
        rw [alloc_size] at hg3
        have so := o.size
        have hw1 := B1.size
        have hbx : ge ≠ bx := by omega
        have oo := (Out.of BA (footH bx g1)).trans o2 (fun _ _ e => e)
        refine ⟨k + 1, g2, by go_num, rfl, by omega, ?_, HY.out.out oo (not_footH (fun e => n1 e.symm) (by omega)) (not_footH n3 (by omega)), fun i hi => (HF4.out i hi).out oo (not_footH hbx hg1), by omega, by omega, o.trans oo (fun i hi e => ?_)⟩
        · rw [pushAll_next (by rw [HN.out]; exact hlt) HXk.out, show (pX + ((k + 1 : Nat) : Int)) = pX + (k : Int) + 1 by omega]
          exact H2
        · rcases e with rfl | rfl
          · exact .inl rfl
          · rcases hg2 with rfl | h
            · exact .inr rfl
            · omega
    · obtain rfl : k = N := by omega
      have e1 : (LY.map Wt.ev).take k = LY.map Wt.ev := List.take_of_length_le (by rw [HN.out]; omega)
      rw [e1] at hX
      obtain ⟨V, hB⟩ := hY.blk
      have c0 := hB.cell 0 rfl
      have f0 := hB.frozen 0
      have HB := Lib.hid hB
      have HX := Lib.hid hX
      have hly := hY.lt
      have hpy := hY.2.2.2
      have hl0 := hY.2.2.1
      clear hX hY hF hB e1
      go_wp2_with fail
      go_ret
      have o1 : Out (fun k => k = by') wr (wr.setCell ⟨by', 0, none⟩ (.slice none 0 0)) := Out.set (p := ⟨by', 0, none⟩) (Out.refl (fun k => k = by') wr) (.inl rfl) _
      refine ⟨g1, rfl, HX.out.out o1 n1 (by omega), ⟨.inl ⟨HB.out.set 0 _, rfl, Nat.lt_of_lt_of_le hly.2 o1.size⟩, List.Pairwise.nil, fun _ h => (by cases h), by have := hpy.1; simp; omega, hpy.2⟩, hg2, (o.mono (fun k e => .inl e)).trans o1 (fun i _ e => .inr e)⟩
end Go.Proofs.Ytmdlbjeiokadaaa
