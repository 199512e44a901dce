/- Package heap: slices.DeleteFunc, Drop. -/
import Derived.Test.YtmdlbjeiokadaaaHeapJ
namespace Go.Proofs.Ytmdlbjeiokadaaa
open Go.RowKit
set_option linter.unusedVariables false

/-- Of the first j those that stay stand first; from j on all is as it was. -/
def KInv (f : Int) (zs ys : List Wt) (i j : Nat) : Prop := ys.length = zs.length ∧ i < j ∧ j ≤ zs.length ∧ ys.take i = (zs.take j).filter (kp f) ∧ ys.drop j = zs.drop j
theorem take_one {zs : List Wt} {j : Nat} (h : j < zs.length) : zs.take (j + 1) = zs.take j ++ [nth zs j] := by rw [List.take_succ_eq_append_getElem h, nth_eq h]
theorem kinv_start {f : Int} {zs : List Wt} {k : Nat} (hk : k < zs.length) (ha : ∀ i, i < k → kp f (nth zs i) = true) (hn : kp f (nth zs k) = false) : KInv f zs zs k (k + 1) := by
  refine ⟨rfl, by omega, by omega, ?_, rfl⟩
  rw [take_one hk, List.filter_append]
  have h1 : (zs.take k).filter (kp f) = zs.take k := by
    rw [List.filter_eq_self]
    intro x hx
    obtain ⟨i, hi, rfl⟩ := List.getElem_of_mem hx
    rw [List.length_take] at hi
    have := ha i (by omega)
    rwa [nth_eq (by omega), ← List.getElem_take (j := k)] at this
  rw [h1]
  simp [hn]
theorem kinv_nth {f : Int} {zs ys : List Wt} {i j : Nat} (h : KInv f zs ys i j) (hj : j < zs.length) : nth ys j = nth zs j := by
  have h1 : (ys.drop j)[0]? = (zs.drop j)[0]? := by rw [h.2.2.2.2]
  rw [List.getElem?_drop, List.getElem?_drop, Nat.add_zero] at h1
  unfold nth
  rw [h1]
theorem kinv_keep {f : Int} {zs ys : List Wt} {i j : Nat} (h : KInv f zs ys i j) (hj : j < zs.length) (hk : kp f (nth zs j) = true) : KInv f zs (ys.set i (nth zs j)) (i + 1) (j + 1) := by
  obtain ⟨h1, h2, h3, h4, h5⟩ := h
  refine ⟨by simpa using h1, by omega, by omega, ?_, ?_⟩
  · rw [take_one hj, List.filter_append, ← h4]
    have hi : i < ys.length := by omega
    rw [List.set_eq_take_append_cons_drop, if_pos hi]
    have hl : (ys.take i).length = i := by rw [List.length_take]; omega
    have e : List.take (i + 1) (ys.take i ++ nth zs j :: ys.drop (i + 1)) = ys.take i ++ [nth zs j] := by
      rw [List.take_append, hl, show i + 1 - i = 1 by omega, List.take_of_length_le (by omega)]
      rfl
    rw [e]
    simp [hk]
  · rw [List.drop_set_of_lt (by omega)]
    have e : ∀ l : List Wt, l.drop (j + 1) = (l.drop j).drop 1 := fun l => by rw [List.drop_drop]
    rw [e ys, e zs, h5]
theorem kinv_skip {f : Int} {zs ys : List Wt} {i j : Nat} (h : KInv f zs ys i j) (hj : j < zs.length) (hk : kp f (nth zs j) = false) : KInv f zs ys i (j + 1) := by
  obtain ⟨h1, h2, h3, h4, h5⟩ := h
  refine ⟨h1, by omega, by omega, ?_, ?_⟩
  · rw [take_one hj, List.filter_append, ← h4]
    simp [hk]
  · have e : ∀ l : List Wt, l.drop (j + 1) = (l.drop j).drop 1 := fun l => by rw [List.drop_drop]
    rw [e ys, e zs, h5]
theorem kinv_end {f : Int} {zs ys : List Wt} {i : Nat} (h : KInv f zs ys i zs.length) : ys.take i = zs.filter (kp f) := by
  have := h.2.2.2.1
  rwa [List.take_of_length_le (Nat.le_refl _)] at this
theorem all_stay {f : Int} {zs : List Wt} (h : ∀ i, i < zs.length → kp f (nth zs i) = true) : zs.filter (kp f) = zs := by
  rw [List.filter_eq_self]
  intro x hx
  obtain ⟨i, hi, rfl⟩ := nth_of_mem hx
  exact h i hi

def DelInv (w : World) (g n c fb : Nat) (f : Int) (zs : List Wt) (gh : Nat) (vi vj : Value) (wr : World) : Prop :=
  ∃ (i j : Nat) (ys : List Wt), vi = .int .i64 (i : Int) ∧ vj = .int .i64 (j : Int) ∧ n - j = gh ∧ KInv f zs ys i j ∧ OwnW wr 0 (.slice (some ⟨g, 0, none⟩) n c) ys ∧ Blk wr fb [.int .i64 f] 3 ∧ Out (fun k => k = g) w wr
/-- What DeleteFunc leaves. -/
def DelTo (w : World) (g c : Nat) (f : Int) (zs : List Wt) (e : Ending) (w' : World) : Prop :=
  ∃ m : Nat, e = .returned (.slice (some ⟨g, 0, none⟩) m c) ∧ OwnW w' 0 (.slice (some ⟨g, 0, none⟩) m c) (zs.filter (kp f)) ∧ Out (fun k => k = g) w w'
theorem del_out {w W : World} {g i : Nat} {us : List Value} (o : Out (fun k => k = g) w W) : Out (fun k => k = g) w (W.setCells g i us) := Out.setCells (F := fun k => k = g) (.inl rfl) _ _ o
abbrev zeroW : Value := .agg #[.int .i64 0, .int .i64 0, .int .i64 0, .int .i64 0, .int .i64 0]
theorem zeroW_one : ∀ v ∈ zeroW.cells.toList, v.oneCell' = true := by
  intro v hv
  simp [Value.cells] at hv
  subst hv; rfl

set_option maxRecDepth 100000 in
set_option maxHeartbeats 1000000 in
theorem delete_any (g n c fb : Nat) (f : Int) (zs : List Wt) (w : World) (hO : OwnW w 0 (.slice (some ⟨g, 0, none⟩) n c) zs) (hF : Blk w fb [.int .i64 f] 3) (hfg : fb ≠ g) (hn : n ≤ 1000000) :
    Calls Try.prog 23 #[.slice (some ⟨g, 0, none⟩) n c, fDel fb] w (DelTo w g c f zs) := by
  have hl := hO.len
  have HI := Lib.hid (index_any g n c fb f zs w hO hF hn)
  have HL := Lib.hid hl
  go_enter Try.func23, Try.ntmps23
  go_upto_region 2 with (first
    | (go_at_call 30; refine HI.out.mono ?_; rintro e w1 ⟨(⟨rfl, ha⟩ | ⟨k, rfl, hk, ha, hb⟩), B1⟩))
  · clear HI hl
    have O1 := Lib.hid (hO.kept B1)
    clear hO hF
    go_wp2_with fail
    go_ret
    refine ⟨n, rfl, ?_, Out.of B1 _⟩
    rw [all_stay (by rw [HL.out.1]; exact ha)]
    exact O1.out
  · have KS := Lib.hid (kinv_start (f := f) (by rw [hl.1]; exact hk) ha hb)
    have O1 := Lib.hid (hO.kept B1)
    have F1 := Lib.hid (hF.kept B1)
    have k0 : (0 : Int) ≤ (k : Int) := by omega
    have k1 : (k : Int) ≤ 1000000 := by omega
    have k2 : ¬ (k : Int) = -1 := by omega
    clear HI hl hO hF ha hb
    go_wp2_with fail
    go_loopg [5, 6] (n - (k + 1)) (fun gh vi vj wr => DelInv w g n c fb f zs gh vi vj wr)
    case atStart => exact ⟨k, k + 1, zs, rfl, by go_num, rfl, KS.out, O1.out, F1.out, Out.of B1 _⟩
    case round =>
      clear KS O1 F1 k0 k1 k2
      obtain ⟨i, j, ys, rfl, rfl, rfl, hK, hO, hF, o⟩ := hrel
      have hl := HL.out
      have hyl := hO.len.1
      have hij := hK.2.1
      have i0 : (0 : Int) ≤ (i : Int) := by omega
      have j0 : (0 : Int) ≤ (j : Int) := by omega
      have hjn := hK.2.2.1
      by_cases hlt : j < n
      · have j1 : (j : Int) < (n : Int) := by omega
        have i1 : (i : Int) < (n : Int) := by omega
        obtain ⟨a0, a1, a2, a3, a4⟩ := own_five hO (i := j) (by omega)
        have hg := (hO.lt encW_is).2
        have en := kinv_nth hK (by omega)
        generalize hx : nth ys j = x at a0 a1 a2 a3 a4
        have HX : Hid (nth zs j = x) := Lib.hid (by rw [← en, hx])
        have HO := Lib.hid hO
        have HK := Lib.hid hK
        have hilt : i < ys.length := by omega
        have hjlt : j < zs.length := by omega
        have n1 : ¬ g = wr.heap.size := by omega
        clear en hx hO hK hl hyl
        cases hq : x.f == f
        · go_wp2_with (first
            | (go_at_call 24; refine (del_ask fb f x _ (hF.alloc _)).mono ?_; rw [hq]; rintro e w2 ⟨rfl, B2⟩; have BB := new_then (new_alloc (new_refl wr) _) B2; have O2 := HO.out.kept BB; obtain ⟨c0, c1, c2, c3, c4⟩ := own_five O2 hilt; obtain ⟨f0, f1, f2, f3, f4⟩ := five_free (i := i) (O2.frozen encW_is); have X2 := (Blk.new wr [.int .i64 x.a, .int .i64 x.k, .int .i64 x.f, .int .i64 x.n, .int .i64 x.t] 58).kept B2; have d0 := X2.cell 0 rfl; have d1 := X2.cell 1 rfl; have d2 := X2.cell 2 rfl; have d3 := X2.cell 3 rfl; have d4 := X2.cell 4 rfl; clear a0 a1 a2 a3 a4))
          go_roundg (n - (j + 1))
          case measure => omega
          case rel =>
            have K2 := kinv_keep HK.out hjlt (by rw [HX.out, kp, hq]; rfl)
            rw [HX.out] at K2
            change DelInv w g n c fb f zs _ _ _ (w2.setCells g (i * 5) (encW x))
            exact ⟨i + 1, j + 1, ys.set i x, by go_num, by go_num, rfl, K2, O2.put encW_is hilt x, (hF.kept BB).out (del_out (Out.refl (fun k => k = g) w2)) hfg, del_out (o.new BB)⟩
        · go_wp2_with (first
            | (go_at_call 24; refine (del_ask fb f x _ (hF.alloc _)).mono ?_; rw [hq]; rintro e w2 ⟨rfl, B2⟩; have BB := new_then (new_alloc (new_refl wr) _) B2))
          go_roundg (n - (j + 1))
          case measure => omega
          case rel => exact ⟨i, j + 1, ys, rfl, by go_num, rfl, kinv_skip HK.out hjlt (by rw [HX.out, kp, hq]; rfl), HO.out.kept BB, hF.kept BB, o.new BB⟩
      · obtain rfl : j = n := by omega
        have i1 : (i : Int) ≤ (j : Int) := by omega
        have i2 : (i : Int) ≤ (c : Int) := by have := hO.len; omega
        have hic : i ≤ c := by omega
        have j1 : (j : Int) ≤ (c : Int) := by have := hO.len; omega
        have hcl : ∀ ty cc, (Builtin.clear_ #[50] ty #[.slice (some ⟨g, i * 5, none⟩) (j - i) cc]).run Try.prog wr = .ok (.tuple #[]) (wr.setCells g (i * 5) (Builtin.zeroCells zeroW.cells (j - i)).toList) := fun ty cc => by
          have := run_clearE encW_is strW zeroW_one hO (i := i) (by omega) ty cc
          rwa [hyl] at this
        have HC := Lib.hid (OwnE.cleared encW_is strW hO (i := i) (by omega))
        rw [hyl] at HC
        have HK := Lib.hid hK
        clear hO hK hyl
        go_wp2_with fail
        go_ret
        have hk2 := HK.out
        have hz := HL.out.1
        subst hz
        refine ⟨i, rfl, ?_, del_out o⟩
        rw [← kinv_end hk2]
        exact HC.out
theorem delete_none (fb : Nat) (w : World) :
    Calls Try.prog 23 #[.slice none 0 0, fDel fb] w fun e w' => e = .returned (.slice none 0 0) ∧ w = w' := by
  go_enter Try.func23, Try.ntmps23
  go_wp2_with (first
    | (go_at_call 30; refine (index_none fb _).mono ?_; rintro e w1 ⟨rfl, rfl⟩))
  go_ret
  exact ⟨rfl, rfl⟩

theorem drop_none (b : Nat) (f p : Int) (w : World) (hB : Blk w b [.slice none 0 0, .int .i64 p] 52) :
    Calls Try.prog 11 #[.pointer (some ⟨b, 0, none⟩), .int .i64 f] w fun e w' => e = .returned (.int .i64 0) ∧ Blk w' b [.slice none 0 0, .int .i64 p] 52 ∧ Out (fun k => k = b) w w' := by
  have BA := new_alloc (new_refl w) (.cells #[.int .i64 f] 3)
  have B1 := hB.kept BA
  have c0 := B1.cell 0 rfl
  have f0 := B1.frozen 0
  have B2 := B1.set 0 (.slice none 0 0)
  have c2 := B2.cell 0 rfl
  clear hB
  go_enter Try.func11, Try.ntmps11
  go_wp2_with (first
    | (go_at_call 23; refine (delete_none _ _).mono ?_; rintro e w1 ⟨rfl, rfl⟩)
    | (go_at_call 25; refine (settle_none b _ c2).mono ?_; rintro e w2 ⟨rfl, rfl⟩))
  go_ret
  exact ⟨rfl, B2, Out.set (p := ⟨b, 0, none⟩) (Out.of BA (fun k => k = b)) (.inl rfl) _⟩
/-- Behind Drop: a heap of those that stay. -/
def DroppedH (w : World) (b g n c : Nat) (f : Int) (zs : List Wt) (p : Int) (e : Ending) (w' : World) : Prop :=
  ∃ (m : Nat) (zs' : List Wt), e = .returned (.int .i64 ((n : Int) - (m : Int))) ∧ HF w' b g m c zs' p ∧ HeapAt zs' ∧ zs'.Perm (zs.filter (kp f)) ∧ Out (footH b g) w w'
theorem HF.turn {w : World} {b g m c : Nat} {zs : List Wt} {V : Value} {p : Int} (hB : Blk w b [V, .int .i64 p] 52) (hO : OwnW w 0 (.slice (some ⟨g, 0, none⟩) m c) zs) (hg : g ≠ b) : HF (w.setCell ⟨b, 0, none⟩ (.slice (some ⟨g, 0, none⟩) m c)) b g m c zs p := by
  have o : Out (fun k => k = b) w (w.setCell ⟨b, 0, none⟩ (.slice (some ⟨g, 0, none⟩) m c)) := Out.set (p := ⟨b, 0, none⟩) (Out.refl (fun k => k = b) w) (.inl rfl) _
  exact ⟨hB.set 0 _, hO.out o (fun k e => by simp [Value.ownBlock] at e; subst e; exact hg), hg⟩
set_option maxRecDepth 100000 in
theorem drop_raw (b g n c : Nat) (f : Int) (zs : List Wt) (p : Int) (w : World) (h : HF w b g n c zs p) (hn : n ≤ 1000000) :
    Calls Try.prog 11 #[.pointer (some ⟨b, 0, none⟩), .int .i64 f] w (DroppedH w b g n c f zs p) := by
  have BA := new_alloc (new_refl w) (.cells #[.int .i64 f] 3)
  have F1 := Blk.new w [.int .i64 f] 3
  have H1 := h.kept BA
  have c0 := H1.c0
  have hlt := h.lt
  have hgb := h.2.2
  have hfg : w.heap.size ≠ g := by omega
  have HD := Lib.hid (delete_any g n c w.heap.size f zs _ H1.2.1 F1 hfg hn)
  have n0 : (n : Int) ≤ 1000000 := by omega
  have n1 : (0 : Int) ≤ (n : Int) := by omega
  have hl := Lib.hid h.len
  clear h
  go_enter Try.func11, Try.ntmps11
  go_wp2_with (first
    | (go_at_call 23; refine HD.out.mono ?_; rintro e w1 ⟨m, rfl, O1, o1⟩; have B1 := H1.1.out o1 (fun e => hgb e.symm); have c1 := B1.cell 0 rfl; have f1 := B1.frozen 0; have H2 := HF.turn B1 O1 hgb; have hm : m ≤ 1000000 := (by have h1 := H2.len; have h2 := List.length_filter_le (kp f) zs; have h3 := hl.out; omega); have m0 : (m : Int) ≤ 1000000 := (by omega); have m1 : (0 : Int) ≤ (m : Int) := (by omega))
    | (go_at_call 25; refine (settle_any b g m c _ p _ H2 hm).mono ?_; rintro e w3 ⟨rfl, zs3, h3, p3, H3, o3⟩; have c3 := H3.c0))
  go_ret
  exact ⟨m, zs3, rfl, H3, h3, p3, (Out.set (p := ⟨b, 0, none⟩) ((Out.of BA (footH b g)).trans o1 (fun i _ e => .inr e)) (.inl (.inl rfl)) _).trans o3 (fun i _ e => .inr e)⟩
theorem dropH (b g N : Nat) (f : Int) (L : List Wt) (p : Int) (w : World) (h : IsHeap w b g L p) (hN : (L.filter (kp f)).length = N) :
    Calls Try.prog 11 #[.pointer (some ⟨b, 0, none⟩), .int .i64 f] w (HTurns w b g (.int .i64 ((L.length : Int) - (N : Int))) (L.filter (kp f)) p) := by
  obtain ⟨h0, ha, ht, hl, hq⟩ := h
  have hlen := List.length_filter_le (kp f) L
  have asc : Asc (L.filter (kp f)) := List.Pairwise.filter _ ha
  have trn : ∀ y ∈ L.filter (kp f), y.t < p := fun y hy => ht y (List.mem_filter.1 hy).1
  rcases h0 with ⟨hb, rfl, hgl⟩ | ⟨n, c, zs, hh, h1, h2⟩
  · subst hN
    refine (drop_none b f p w hb).mono fun e w' ⟨he, hb', o⟩ => ⟨g, by rw [he]; rfl, ⟨.inl ⟨hb', rfl, Nat.lt_of_lt_of_le hgl o.size⟩, asc, trn, by simpa using hl, hq⟩, .inl rfl, o.mono fun k e => .inl e⟩
  · have hln := hh.len
    have hl2 := h2.length_eq
    refine (drop_raw b g n c f zs p w hh (by omega)).mono fun e w' ⟨m, zs', he, h3, h4, h5, o⟩ => ?_
    have hp2 : zs'.Perm (L.filter (kp f)) := h5.trans (h2.filter _)
    have hm : m = N := by rw [← h3.len, hp2.length_eq, hN]
    exact ⟨g, by rw [he, ← hl2, hln, hm], ⟨.inr ⟨m, c, zs', h3, h4, hp2⟩, asc, trn, by omega, hq⟩, .inl rfl, o⟩
end Go.Proofs.Ytmdlbjeiokadaaa
