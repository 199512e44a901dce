/- Package heap: Clone, Sorted. -/
import Derived.Test.YtmdlbjeiokadaaaHeapS
import Derived.Test.YtmdlbjeiokadaaaRef6A
import Derived.Test.YtmdlbjeiokadaaaHeapG
import Derived.Lib.SliceRun
namespace Go.Proofs.Ytmdlbjeiokadaaa
open Go.RowKit
set_option linter.unusedVariables false

section
variable {α : Type} {enc : α → List Value} {k : Nat} {t e : TypeId} {z : Value} {bytes : Nat}
/-- 'append(out, more...)' in a plain region. -/
theorem wp_catE (E : IsEnc enc k) (S : IsStr t e z k bytes) {ops : Array Oper} {rest : List Oper} {o : Oper} {a : Act} {Q : Exit → Act → World → Prop} {W : World} (hgd : o.guard = none) (s x : Operand)
    (ho : o.op = .call { callee := .builtin .append, args := #[s, x], argTypes := #[t, t] })
    (base : Nat) (v : Value) (zs : List α) (A : Option Addr) (m c : Nat) (ys : List α) (hs : a.eval s = v) (hx : a.eval x = .slice A m c) (hsrc : SrcE enc W A m c ys) (hown : OwnE enc k e W base v zs) (hlen : zs.length + ys.length ≤ 1000000000) (hbase : base ≤ W.heap.size)
    (h : ∀ v' w', OwnE enc k e w' base v' (zs ++ ys) → W.grownBy w' v.ownBlock → (v'.ownBlock = v.ownBlock ∨ v'.ownBlock = some W.heap.size) → wpList Try.prog ops Q rest (a.put o.dst v') w') : wpList Try.prog ops Q (o :: rest) a W := by
  refine wpList_plain hgd fun K hK => ?_
  obtain ⟨v', w', hr, h2, h3, h4⟩ := run_catE E S o.type W base v zs A m c ys hown hsrc hlen hbase
  unfold Oper.wp execOp
  simp only [ho, resolve, invoke, builtin, Sem.run_bind, Sem.run_pure, Result.andThen_ok, List.map_toArray, List.map_cons, List.map_nil, hs, hx, hr]
  exact hK _ _ (h v' w' h2 h3 h4)
/-- 'make([]T, 0, n)'. -/
theorem make_roomE (S : IsStr t e z k bytes) (n : Nat) (h : n ≤ 1000000) (w : World) :
    (Instr.makeSlice t (.int .i64 0) (.int .i64 (n : Int))).run Try.prog w = .ok (.slice (some ⟨w.heap.size, 0, none⟩) 0 n) (w.alloc (.cells (madeCells z.cells (n * k)) e)) := by
  obtain ⟨i, hi, hz0, hz1, hz2⟩ := info_parts S.info
  have hb' : (i.bytes : Int) * (n : Int) ≤ 281474976710656 := by
    have h1 : i.bytes * n ≤ 100 * 1000000 := Nat.mul_le_mul (by rw [hz2]; exact S.le) h
    have h2 : ((i.bytes * n : Nat) : Int) ≤ 281474976710656 := by omega
    rwa [Int.natCast_mul] at h2
  have hr := run_make (P := Try.prog) w t e i _ S.und hi hz0 .i64 .i64 0 (n : Int) (Int.le_refl _) (by omega) hb' (by omega)
  simp only [Int.toNat_zero, Int.toNat_natCast, hz1] at hr
  exact hr
theorem OwnE.room {w : World} {base n : Nat} (hb : base ≤ w.heap.size) (h : n ≤ 1000000) (cs : Array Value) (hs : cs.size = n * k) : OwnE enc k e (w.alloc (.cells cs e)) base (.slice (some ⟨w.heap.size, 0, none⟩) 0 n) [] :=
  World.ownsRow_made w _ n hb (by unfold maxLen; omega) hs
end
theorem src_own {w : World} {base g n c : Nat} {zs : List Wt} (h : OwnW w base (.slice (some ⟨g, 0, none⟩) n c) zs) : SrcE encW w (some ⟨g, 0, none⟩) n c zs := by
  refine ⟨h.len.1.symm, .inr ⟨_, rfl, fun j u hj => ?_⟩⟩
  obtain ⟨_, _, _, _, rest, hb, _⟩ := h.blk encW_is
  have := hb.cell j (v := u) (by rw [List.getElem?_append_left (List.getElem?_eq_some_iff.1 hj).1]; exact hj)
  unfold Addr.add
  split
  · simp_all
  · simpa using this

theorem clone_none (w : World) :
    Calls Try.prog 27 #[.slice none 0 0] w fun e w' => e = .returned (.slice none 0 0) ∧ w = w' := by
  have hq50 : ∀ (w : World) (a : Option Addr) (n c n' c' : Nat), (binOp .eql 50 (.slice a n c) (.slice none n' c')).run Try.prog w = .ok (.bool a.isNone) w := fun w a n c n' c' => Lib.run_eql_slice_nil w _ _ a n c n' c' Try.underlying50
  go_enter Try.func27, Try.ntmps27
  go_wp2_with fail
  go_ret
  exact ⟨rfl, rfl⟩
theorem clone_some (g n c : Nat) (zs : List Wt) (w : World) (h : OwnW w 0 (.slice (some ⟨g, 0, none⟩) n c) zs) (hn : n ≤ 1000000) :
    Calls Try.prog 27 #[.slice (some ⟨g, 0, none⟩) n c] w fun e w' => ∃ v, e = .returned v ∧ OwnW w' w.heap.size v zs ∧ Below w.heap.size w w' := by
  have hl := Lib.hid h.len.1
  have HS := Lib.hid (src_own h)
  have hq : (zs.length : Nat) ≤ 1000000 := by rw [hl.out]; exact hn
  have HL : Hid (([] : List Wt).length + zs.length ≤ 1000000000) := Lib.hid (by simp; omega)
  clear h
  have hq50 : ∀ (w : World) (a : Option Addr) (n c n' c' : Nat), (binOp .eql 50 (.slice a n c) (.slice none n' c')).run Try.prog w = .ok (.bool a.isNone) w := fun w a n c n' c' => Lib.run_eql_slice_nil w _ _ a n c n' c' Try.underlying50
  go_enter Try.func27, Try.ntmps27
  go_wp2_with (first
    | (at_builtin; refine wp_catE encW_is strW (by rfl) _ _ (by rfl) w.heap.size _ [] _ _ _ zs (by rfl) (by rfl) (HS.out.kept (new_alloc (new_refl w) _)) (OwnE.room (Nat.le_refl _) (by omega) #[] rfl) HL.out (alloc_le (Nat.le_refl _) _) ?_; intro v1 w1 O1 G1 hat1))
  go_ret
  exact ⟨v1, rfl, O1, (new_alloc (new_refl w) _).trans (below_pushE (OwnE.room (enc := encW) (k := 5) (Nat.le_refl _) (by omega) #[] rfl) G1 (alloc_le (Nat.le_refl _) _))⟩

theorem strH : IsStr 46 27 (.agg #[.int .i64 0, .int .i64 0, .int .i64 0, .int .i64 0]) 4 32 := ⟨by kernel_rfl, by kernel_rfl, rfl, by decide⟩
abbrev OwnH (w : World) (base : Nat) (v : Value) (zs : List Ev) : Prop := OwnE encE 4 27 w base v zs
/-- All that wait, in order, in a list of its own. -/
def SortedTo (w : World) (L : List Wt) (N : Nat) (e : Ending) (w' : World) : Prop :=
  ∃ g c, e = .returned (.slice (some ⟨g, 0, none⟩) N c) ∧ OwnH w' w.heap.size (.slice (some ⟨g, 0, none⟩) N c) (L.map Wt.ev) ∧ Below w.heap.size w w'
def SortInv (w : World) (gs N : Nat) (L : List Wt) (gh : Nat) (vi vo : Value) (wr : World) : Prop :=
  ∃ k g c : Nat, vi = .int .i64 (k : Int) ∧ N - k = gh ∧ k ≤ N ∧ vo = .slice (some ⟨g, 0, none⟩) k c ∧ OwnH wr w.heap.size vo ((L.take k).map Wt.ev) ∧ (∀ i, i < N → Five wr gs i (nth L i)) ∧ g ≠ gs ∧ Below w.heap.size w wr
theorem Five.out {F : Nat → Prop} {w w' : World} {g i : Nat} {x : Wt} (h : Five w g i x) (u : Out F w w') (hg : ¬ F g) : Five w' g i x := by
  have hlt : g < w.heap.size := World.block_lt_of_cell? w _ h.1
  have e : ∀ k, w'.cell? ⟨g, k, none⟩ = w.cell? ⟨g, k, none⟩ := fun k => World.cell?_of_block (a := ⟨g, k, none⟩) (u.block g hlt hg)
  unfold Five
  rw [e, e, e, e, e]
  exact h

theorem sorted_nilH (w : World) :
    Calls Try.prog 19 #[.pointer none] w fun e w' => e = .returned (.slice none 0 0) ∧ w = w' := by
  go_enter Try.func19, Try.ntmps19
  go_wp2_with fail
  go_ret
  exact ⟨rfl, rfl⟩
/-- A heap's row, as it is cloned. -/
theorem madeE (n : Nat) : (madeCells (Value.agg #[.int .i64 0, .int .i64 0, .int .i64 0, .int .i64 0]).cells (n * 4)).size = n * 4 := size_madeCells _ _
theorem take_map {L : List Wt} {k : Nat} {x : Wt} (hk : k < L.length) (hx : nth L k = x) : (L.take (k + 1)).map Wt.ev = (L.take k).map Wt.ev ++ [x.ev] := by
  rw [List.take_succ_eq_append_getElem hk, List.map_append, ← nth_eq hk, hx]; rfl
set_option maxRecDepth 100000 in
set_option maxHeartbeats 1000000 in
/-- Behind the sort: the list is made. -/
theorem sorted_some (b g n c N : Nat) (zs L : List Wt) (p : Int) (w : World) (h : HF w b g n c zs p) (hp : zs.Perm L) (ha : Asc L) (hn : n ≤ 1000000) (hN : L.length = N) :
    Calls Try.prog 19 #[.pointer (some ⟨b, 0, none⟩)] w (SortedTo w L N) := by
  have c0 := h.c0
  have hlen : zs.length = N := by rw [hp.length_eq, hN]
  have hnN : n = N := by rw [← h.len, hlen]
  subst hnN
  have HC := Lib.hid (clone_some g n c zs w h.2.1 hn)
  have HN := Lib.hid hN
  have HLZ := Lib.hid hlen
  have HP := Lib.hid hp
  have HA := Lib.hid ha
  have n0 : (0 : Int) ≤ (n : Int) := by omega
  have n1 : (n : Int) ≤ 1000000 := by omega
  have hmk : ∀ w, (Instr.makeSlice 46 (.int .i64 0) (.int .i64 (n : Int))).run Try.prog w = .ok (.slice (some ⟨w.heap.size, 0, none⟩) 0 n) (w.alloc (.cells (madeCells (Value.agg #[.int .i64 0, .int .i64 0, .int .i64 0, .int .i64 0]).cells (n * 4)) 27)) := fun w => make_roomE strH n hn w
  clear h hlen hN hp ha
  go_enter Try.func19, Try.ntmps19
  go_upto_region 4 with (first
    | (go_at_call 27; refine HC.out.mono ?_; rintro e w1 ⟨v, rfl, O1, B1⟩))
  rcases O1.form with ⟨rfl, rfl⟩ | ⟨gs, cap, rfl⟩
  · obtain rfl : 0 = n := HLZ.out
    have hL : L = [] := List.nil_perm.1 HP.out
    subst hL
    clear hmk n0 n1 HP HA O1
    have hmk : ∀ w, (Instr.makeSlice 46 (.int .i64 0) (.int .i64 0)).run Try.prog w = .ok (.slice (some ⟨w.heap.size, 0, none⟩) 0 0) (w.alloc (.cells (madeCells (Value.agg #[.int .i64 0, .int .i64 0, .int .i64 0, .int .i64 0]).cells (0 * 4)) 27)) := fun w => make_roomE strH 0 (by omega) w
    go_wp2_with (first
      | (go_at_call 28; refine (sort_none 0 none _).mono ?_; rintro e w2 ⟨rfl, rfl⟩))
    generalize hWx : w2.alloc _ = Wx
    go_loopg [21, 4] 0 (fun gh vi vo wr => vi = .int .i64 0 ∧ vo = .slice (some ⟨w2.heap.size, 0, none⟩) 0 0 ∧ Wx = wr)
    case atStart => exact ⟨rfl, rfl, rfl⟩
    case round =>
      obtain ⟨rfl, rfl, rfl⟩ := hrel
      go_wp2_with fail
      go_ret
      subst hWx
      exact ⟨w2.heap.size, 0, rfl, OwnE.room B1.size (by omega) _ (madeE 0), new_then B1 (new_alloc (new_refl w2) _)⟩
  · have e1 := HLZ.out
    rw [e1] at O1 ⊢
    have hgs := O1.lt encW_is
    have HO := Lib.hid O1
    clear O1 HLZ e1
    go_wp2_with (first
      | (go_at_call 28; refine (sort_any gs n cap w.heap.size zs L _ HO.out HP.out HA.out hn).mono ?_; rintro e w2 ⟨rfl, F2, o2⟩))
    have B2 : Below w.heap.size w w2 := B1.trans (o2.below B1.size (fun k hk => by subst hk; exact hgs.1))
    have hs2 := o2.size
    have S0 : Hid (SortInv w gs n L n (.int .i64 0) (.slice (some ⟨w2.heap.size, 0, none⟩) 0 n) (w2.alloc (.cells (madeCells (Value.agg #[.int .i64 0, .int .i64 0, .int .i64 0, .int .i64 0]).cells (n * 4)) 27))) :=
      Lib.hid ⟨0, w2.heap.size, n, rfl, rfl, by omega, rfl, OwnE.room B2.size hn _ (madeE n), fun i hi => (F2 i hi).out (Out.of (new_alloc (new_refl w2) _) (fun _ => False)) (fun x => x), by omega, new_then B2 (new_alloc (new_refl w2) _)⟩
    clear F2 o2 HC c0 hmk
    go_loopg [21, 4] n (fun gh vi vo wr => SortInv w gs n L gh vi vo wr)
    case atStart => exact S0.out
    case round =>
      clear S0 B2 hs2
      obtain ⟨k, go, co, rfl, rfl, hk, rfl, hO, hF, hne, B⟩ := hrel
      have hnl := HN.out
      by_cases hlt : k < n
      · obtain ⟨a0, a1, a2, a3, a4⟩ := hF k hlt
        generalize hx : nth L k = x at a0 a1 a2 a3 a4
        have HX := Lib.hid hx
        have HF5 := Lib.hid hF
        have HO2 := Lib.hid hO
        have HK : Hid (((L.take k).map Wt.ev).length + 1 = k + 1) := Lib.hid (by simp; omega)
        have hy : k + 1 ≤ 1000000000 := by omega
        have hs := B.size
        have k0 : (0 : Int) ≤ (k : Int) := by omega
        have k1 : (k : Int) < (n : Int) := by omega
        have hgr : gs < wr.heap.size := World.block_lt_of_cell? wr _ a0
        clear hx hF hO
        go_wp2_with (first
          | (at_builtin; refine wp_pushE encE_is strH (by rfl) _ _ (by rfl) w.heap.size _ ((L.take k).map Wt.ev) x.ev _ 1 (by rfl) (by rfl) (At.newAt (alloc_size wr _) (encE x.ev) _) ((HO2.out.alloc _).alloc _) (k + 1) HK.out hy (alloc_le (alloc_le hs _) _) _ rfl ?_; intro g1 c1 w3 O3 G3 hat3 hlt3))
        go_roundg (n - (k + 1))
        case measure => omega
        case rel =>
          have q3 := out_pushE G3
          have o3 := ((Out.of (new_alloc (new_alloc (new_refl wr) _) _) _).trans q3 (fun _ _ e => e))
          refine ⟨k + 1, g1, c1, by go_num, rfl, by omega, rfl, ?_, fun i hi => (HF5.out i hi).out o3 (fun e => by simp [Value.ownBlock] at e; exact hne e), ?_, ?_⟩
          · rw [take_map (by omega) HX.out]; exact O3
          · rcases hat3 with e | e
            · simp [Value.ownBlock] at e; omega
            · simp at e; omega
          · exact (new_then B (new_alloc (new_alloc (new_refl wr) _) _)).trans (below_pushE ((HO2.out.alloc _).alloc _) G3 (alloc_le (alloc_le hs _) _))
      · obtain rfl : k = n := by omega
        have e1 : L.take k = L := List.take_of_length_le (by omega)
        rw [e1] at hO
        have HO2 := Lib.hid hO
        clear hO hF
        go_wp2_with fail
        go_ret
        exact ⟨go, co, rfl, HO2.out, B⟩
theorem sorted_none (b : Nat) (p : Int) (w : World) (hB : Blk w b [.slice none 0 0, .int .i64 p] 52) :
    Calls Try.prog 19 #[.pointer (some ⟨b, 0, none⟩)] w (SortedTo w [] 0) := by
  have c0 := hB.cell 0 rfl
  have B1 := new_refl w
  go_enter Try.func19, Try.ntmps19
  go_upto_region 4 with (first
    | (go_at_call 27; refine (clone_none _).mono ?_; rintro e w1 ⟨rfl, rfl⟩))
  have hmk : ∀ w, (Instr.makeSlice 46 (.int .i64 0) (.int .i64 0)).run Try.prog w = .ok (.slice (some ⟨w.heap.size, 0, none⟩) 0 0) (w.alloc (.cells (madeCells (Value.agg #[.int .i64 0, .int .i64 0, .int .i64 0, .int .i64 0]).cells (0 * 4)) 27)) := fun w => make_roomE strH 0 (by omega) w
  go_wp2_with (first
    | (go_at_call 28; refine (sort_none 0 none _).mono ?_; rintro e wq ⟨rfl, rfl⟩))
  generalize hWx : wq.alloc _ = Wx
  go_loopg [21, 4] 0 (fun gh vi vo wr => vi = .int .i64 0 ∧ vo = .slice (some ⟨wq.heap.size, 0, none⟩) 0 0 ∧ Wx = wr)
  case atStart => exact ⟨rfl, rfl, rfl⟩
  case round =>
    obtain ⟨rfl, rfl, rfl⟩ := hrel
    go_wp2_with fail
    go_ret
    subst hWx
    exact ⟨wq.heap.size, 0, rfl, OwnE.room B1.size (by omega) _ (madeE 0), new_then B1 (new_alloc (new_refl wq) _)⟩
theorem sortedH (b g N : Nat) (L : List Wt) (p : Int) (w : World) (h : IsHeap w b g L p) (hN : L.length = N) :
    Calls Try.prog 19 #[.pointer (some ⟨b, 0, none⟩)] w (SortedTo w L N) := by
  rcases h.1 with ⟨hB, rfl, _⟩ | ⟨n, c, zs, hh, h1, h2⟩
  · subst hN
    exact sorted_none b p w hB
  · have hl := hh.len
    have hl2 := h2.length_eq
    have := h.2.2.2
    exact sorted_some b g n c N zs L p w hh h2 h.2.1 (by omega) hN
end Go.Proofs.Ytmdlbjeiokadaaa
