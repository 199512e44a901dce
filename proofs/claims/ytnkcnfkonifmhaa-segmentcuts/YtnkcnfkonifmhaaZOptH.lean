/- Package option: put. -/
import Derived.Test.YtnkcnfkonifmhaaZOptG
namespace Go.Proofs.Ytnkcnfkonifmhaa
open Go.RowKit
set_option linter.unusedVariables false

theorem three_grown {w w' : World} {b : Option Nat} {g i j k : Nat} {x y z : Value} (G : w.grownBy w' b) (hg : some g ≠ b) (h : w.cell? ⟨g, i, none⟩ = some x ∧ w.cell? ⟨g, j, none⟩ = some y ∧ w.cell? ⟨g, k, none⟩ = some z) : w'.cell? ⟨g, i, none⟩ = some x ∧ w'.cell? ⟨g, j, none⟩ = some y ∧ w'.cell? ⟨g, k, none⟩ = some z :=
  ⟨G.cell h.1 hg, G.cell h.2.1 hg, G.cell h.2.2 hg⟩
theorem puts_take12 {m : Nat} {zs : List Int} {i : Nat} (h : i < zs.length) : (zs.take (i + 1)).flatMap (fun z => putF z m) = (zs.take i).flatMap (fun z => putF z m) ++ putF (bF zs i) m := by
  rw [List.take_succ_eq_append_getElem h, List.flatMap_append, List.flatMap_cons, List.flatMap_nil, List.append_nil, bF, List.getElem?_eq_getElem h]; rfl
def PutO (W : World) (base : Nat) (v : Value) (ys nums : List Int) (n m gh : Nat) (vo vi : Value) (wr : World) : Prop :=
  ∃ i : Nat, vi = .int .i64 (i : Int) ∧ n - i = gh ∧ i ≤ n ∧ MoreI W base v (ys ++ (nums.take i).flatMap (fun z => putF z m)) vo wr
def PutB (W : World) (base : Nat) (v : Value) (ys : List Int) (z : Int) (m gh : Nat) (vo vi : Value) (wr : World) : Prop :=
  ∃ (j : Nat) (t : Int), vi = .int .i64 t ∧ t = (j : Int) - 1 ∧ j = gh ∧ j ≤ m ∧ MoreI W base v (ys ++ putF (z / 256 ^ j) (m - j)) vo wr
theorem put_next {z : Int} {j m : Nat} (h : j + 1 ≤ m) : putF (z / 256 ^ j) (m - j) = putF (z / 256 ^ (j + 1)) (m - (j + 1)) ++ [z / 256 ^ j % 256] := by
  obtain ⟨q, hq⟩ : ∃ q, m - (j + 1) = q := ⟨_, rfl⟩
  have e : m - j = q + 1 := by omega
  rw [e, hq, putF, Int.pow_succ, Int.ediv_ediv_of_nonneg (by exact Int.le_of_lt (Int.pow_pos (by decide)))]
theorem more_below {w w' : World} {base : Nat} {v v' : Value} {zs0 zs : List Int} (O : OwnB w base v zs0) (h : MoreI w base v zs v' w') (hb : base ≤ w.heap.size) : Below base w w' :=
  h.2.1.below hb (fun k e => (World.ownsRow.lt O k e).1)
set_option maxRecDepth 100000 in
set_option maxHeartbeats 4000000 in
theorem put12_any (base : Nat) (v : Value) (zs : List Int) (o : Opt) (a : Option Addr) (n c : Nat) (w : World) (hO : OwnB w base v zs) (hb : base ≤ w.heap.size) (hx : ∀ w', Below base w w' → HasO w' ⟨o, a, n, c⟩) (hk : 0 ≤ o.k ∧ o.k ≤ 255) (hl : lenO o ≤ 255) (hz : zs.length ≤ 10000) :
    Calls Try.prog 37 #[v, .agg #[.int .i64 o.k, .slice a n c, .string o.s]] w fun e w' => ∃ v', e = .returned v' ∧ OwnB w' base v' (zs ++ bytO o) ∧ Below base w w' := by
  have A1 := At.new w [.int .i64 o.k, .slice a n c, .string o.s] 76
  have h0 := hx w (Below.refl _ _)
  have hn : n ≤ 100 := h0.few
  have hln : o.zs.length = n := h0.len
  have htx : o.s.size ≤ 100 := h0.txt
  obtain ⟨m, hm⟩ : ∃ m, szO o.k = m := ⟨_, rfl⟩
  have hm4 : m ≤ 4 := by rw [← hm]; exact sz_four _
  have HB : Hid (bytO o = [o.k, (lenO o : Int)] ++ (o.zs.flatMap (fun z => putF z m) ++ sb o.s)) := Lib.hid (by rw [bytO, hm]; rfl)
  have HX := Lib.hid hx
  have HO := Lib.hid hO
  have HM := Lib.hid hm
  have hv : ∀ g, v.ownBlock = some g → g < w.heap.size := fun g e => (World.ownsRow.lt hO g e).2
  have e1 : IntKind.u8.wrap o.k = o.k := by rw [IntKind.wrap_u8]; omega
  have e2 : IntKind.u8.wrap (lenO o : Int) = (lenO o : Int) := by rw [IntKind.wrap_u8]; omega
  have HN : Hid (zs.length + [o.k, (lenO o : Int)].length ≤ 1000000000) := Lib.hid (by simp; omega)
  have HLn := Lib.hid hln
  clear hx hO hm h0 hln
  go_enter Try.func37, Try.ntmps37
  go_upto_region 2 with (first
    | (go_at_call 62; refine (shapeOf_any o.k _).mono ?_; rintro e w1 ⟨rfl, B1⟩))
  rw [HM.out]
  have A2 := (A1.kept B1).alloc (.cells #[.int .i64 (m : Int), .int .i64 (leO o.k : Int), .int .i64 (moO o.k : Int)] 105)
  have S2 := At.new w1 [.int .i64 (m : Int), .int .i64 (leO o.k : Int), .int .i64 (moO o.k : Int)] 105
  have L2 := new_alloc (new_then (new_alloc (new_refl w) _) B1) (.cells #[.int .i64 (m : Int), .int .i64 (leO o.k : Int), .int .i64 (moO o.k : Int)] 105)
  have hp : w.heap.size < w1.heap.size := by have := B1.size; simp at this; omega
  generalize hpp : w1.heap.size = p at *
  generalize w1.alloc (.cells #[.int .i64 (m : Int), .int .i64 (leO o.k : Int), .int .i64 (moO o.k : Int)] 105) = W at *
  have OW := Lib.hid (HO.out.kept L2)
  have hbW : base ≤ W.heap.size := Nat.le_trans hb L2.size
  have f0 : some w.heap.size ≠ v.ownBlock := fun e => by have := hv _ e.symm; omega
  have f1 : some p ≠ v.ownBlock := fun e => by have := hv _ e.symm; omega
  have HXW : Hid (HasO W ⟨o, a, n, c⟩) := Lib.hid (HX.out W (L2.mono hb))
  clear A1 B1 hpp
  go_cut [0] (fun v1 wx => MoreI W base v (zs ++ [o.k, (lenO o : Int)]) v1 wx)
  case first =>
    have a0 := A2.cell 0 rfl
    have a1 := A2.cell 1 rfl
    have a2 := A2.cell 2 rfl
    go_region_held3 (fun w' => w'.cell? ⟨w.heap.size, 0, none⟩ = some (.int .i64 o.k) ∧ w'.cell? ⟨w.heap.size, 1, none⟩ = some (.slice a n c) ∧ w'.cell? ⟨w.heap.size, 2, none⟩ = some (.string o.s))
      (first | go_keep | exact three_kept B3 (by assumption) | exact three_grown G4 f0 (by assumption))
      (first
        | (go_at_call 61; refine (length_any ⟨o, a, n, c⟩ _ (HXW.out.drew 1)).mono ?_; rintro e w3 ⟨rfl, B3⟩; replace B3 := new_undrew B3; have O3 := OW.out.kept B3; have hb3 := Nat.le_trans hbW B3.size)
        | (refine step_catK elB (o := ⟨some 24, _, _, _, _, _⟩) rfl _ _ rfl base v zs _ 2 2 [o.k, (lenO o : Int)] rfl rfl ?_ ?_ HN.out ?_ _ rfl ?_
           · exact two_src (At.new w3 [.int .u8 o.k, .int .u8 (lenO o : Int)] _)
           · exact O3.alloc _
           · exact alloc_le hb3 _
           intro v4 w4 O4 G4 hat4))
    all_goals
      clear a0 a1 a2
      go_wp2_with fail
      go_meet
      case rel => exact more_then (more_alloc ⟨O3, Out.of B3 _, .inl rfl⟩ _) (more_grown O4 G4 hat4)
  case rest =>
    have M1 := Lib.hid hcut
    have a1 := (at_outF A2 M1.out.2.1 (fun e => f0 e.symm)).cell 1 rfl
    clear hcut
    go_wp2_with fail
    go_loopg [0, 28] n (fun gh vo vi wr => PutO W base v (zs ++ [o.k, (lenO o : Int)]) o.zs n m gh vo vi wr)
    case atStart => exact ⟨0, rfl, rfl, by omega, by simpa using M1.out⟩
    case round =>
      clear a1 M1
      obtain ⟨i, rfl, rfl, hi', hM⟩ := hrel
      have MM := Lib.hid hM
      clear hM
      by_cases hlt : i < n
      · have k0 : (0 : Int) ≤ (i : Int) := by omega
        have k1 : (i : Int) < (n : Int) := by omega
        obtain ⟨g, off, rfl, c0, x0, x1, _⟩ := (HX.out wr ((L2.mono hb).trans (more_below OW.out MM.out hbW))).num (i := i) hlt
        have ET := Lib.hid (puts_take12 (m := m) (zs := o.zs) (i := i) (by have := HLn.out; omega))
        have s0 := (at_outF S2 MM.out.2.1 (fun e => f1 e.symm)).cell 0 rfl
        generalize bF o.zs i = z at *
        have m0 : (0 : Int) ≤ (m : Int) := by omega
        have m1 : (m : Int) ≤ 4 := by omega
        go_wp2_with fail
        go_loopg [0, 9] m (fun gh vo vi wr => PutB W base v (zs ++ [o.k, (lenO o : Int)] ++ (o.zs.take i).flatMap (fun z => putF z m)) z m gh vo vi wr)
        case atStart => exact ⟨m, (m : Int) - 1, rfl, rfl, rfl, Nat.le_refl _, by simpa [putF] using MM.out⟩
        case round =>
          clear MM s0 c0
          obtain ⟨j, t, rfl, ht, rfl, hj, hM⟩ := hrel
          cases j with
          | zero =>
            obtain rfl : t = -1 := by omega
            have MM := Lib.hid hM
            clear hM ht
            go_wp2_with fail
            go_roundg (n - (i + 1))
            case measure => omega
            case rel => exact ⟨i + 1, by go_num, rfl, (by omega : i + 1 ≤ n), by
              have h := MM.out
              simp only [Nat.sub_zero, Int.pow_zero, Int.ediv_one] at h
              rw [ET.out, ← List.append_assoc]; exact h⟩
          | succ j =>
            obtain rfl : t = (j : Int) := by omega
            have EP := Lib.hid (put_next (z := z) hj)
            have hs := hM.2.1.size
            have hlen : (zs ++ [o.k, (lenO o : Int)] ++ (o.zs.take i).flatMap (fun z => putF z m) ++ putF (z / 256 ^ (j + 1)) (m - (j + 1))).length + 1 ≤ 1000000000 := by
              have h1 : m * (o.zs.take i).length ≤ 4 * 100 := Nat.mul_le_mul hm4 (by rw [List.length_take]; omega)
              simp only [List.length_append, puts_lenO, putF_len, List.length_cons, List.length_nil]
              omega
            obtain ⟨n1, hn1⟩ : ∃ n1, (zs ++ [o.k, (lenO o : Int)] ++ (o.zs.take i).flatMap (fun z => putF z m) ++ putF (z / 256 ^ (j + 1)) (m - (j + 1))).length + 1 = n1 := ⟨_, rfl⟩
            rw [hn1] at hlen
            have HN1 := Lib.hid hn1
            have MM := Lib.hid hM
            clear hM ht hn1
            obtain ⟨q, hq⟩ : ∃ q, z / 256 ^ j = q := ⟨_, rfl⟩
            have HQ := Lib.hid hq
            have e8 : IntKind.u8.wrap q = q % 256 := IntKind.wrap_u8 _
            obtain rfl | rfl | rfl | rfl : j = 0 ∨ j = 1 ∨ j = 2 ∨ j = 3 := by omega
            · simp only [Int.pow_zero, Int.ediv_one] at hq
              subst hq
              go_wp2_with (first
                | (at_builtin; refine wp_pushK elB (by rfl) _ _ (by rfl) base _ _ _ _ 1 (by rfl) (by rfl) ((At.new wr [.int .u8 _] _).cell 0 rfl) (MM.out.1.alloc _) n1 HN1.out hlen (alloc_le (Nat.le_trans hbW hs) _) _ rfl ?_; intro g5 c5 w5 O5 G5 hat5 hlt5))
              go_roundg 0
              case measure => omega
              case rel => exact ⟨0, -1, by go_num, by omega, rfl, by omega, by rw [EP.out, HQ.out, ← List.append_assoc]; exact more_then (more_alloc MM.out _) (more_grown O5 G5 (hat5.imp (fun e => e.symm) (fun e => by rw [e]; rfl)))⟩
            · simp only [Int.reducePow] at hq
              subst hq
              go_wp2_with (first
                | (at_builtin; refine wp_pushK elB (by rfl) _ _ (by rfl) base _ _ _ _ 1 (by rfl) (by rfl) ((At.new wr [.int .u8 _] _).cell 0 rfl) (MM.out.1.alloc _) n1 HN1.out hlen (alloc_le (Nat.le_trans hbW hs) _) _ rfl ?_; intro g5 c5 w5 O5 G5 hat5 hlt5))
              go_roundg 1
              case measure => omega
              case rel => exact ⟨1, 0, by go_num, by omega, rfl, by omega, by rw [EP.out, HQ.out, ← List.append_assoc]; exact more_then (more_alloc MM.out _) (more_grown O5 G5 (hat5.imp (fun e => e.symm) (fun e => by rw [e]; rfl)))⟩
            · simp only [Int.reducePow] at hq
              subst hq
              go_wp2_with (first
                | (at_builtin; refine wp_pushK elB (by rfl) _ _ (by rfl) base _ _ _ _ 1 (by rfl) (by rfl) ((At.new wr [.int .u8 _] _).cell 0 rfl) (MM.out.1.alloc _) n1 HN1.out hlen (alloc_le (Nat.le_trans hbW hs) _) _ rfl ?_; intro g5 c5 w5 O5 G5 hat5 hlt5))
              go_roundg 2
              case measure => omega
              case rel => exact ⟨2, 1, by go_num, by omega, rfl, by omega, by rw [EP.out, HQ.out, ← List.append_assoc]; exact more_then (more_alloc MM.out _) (more_grown O5 G5 (hat5.imp (fun e => e.symm) (fun e => by rw [e]; rfl)))⟩
            · simp only [Int.reducePow] at hq
              subst hq
              go_wp2_with (first
                | (at_builtin; refine wp_pushK elB (by rfl) _ _ (by rfl) base _ _ _ _ 1 (by rfl) (by rfl) ((At.new wr [.int .u8 _] _).cell 0 rfl) (MM.out.1.alloc _) n1 HN1.out hlen (alloc_le (Nat.le_trans hbW hs) _) _ rfl ?_; intro g5 c5 w5 O5 G5 hat5 hlt5))
              go_roundg 3
              case measure => omega
              case rel => exact ⟨3, 2, by go_num, by omega, rfl, by omega, by rw [EP.out, HQ.out, ← List.append_assoc]; exact more_then (more_alloc MM.out _) (more_grown O5 G5 (hat5.imp (fun e => e.symm) (fun e => by rw [e]; rfl)))⟩
      · obtain rfl : i = n := by omega
        have e3 : o.zs.take i = o.zs := List.take_of_length_le (by have := HLn.out; omega)
        rw [e3] at MM
        have hs := MM.out.2.1.size
        have a2 := (at_outF A2 MM.out.2.1 (fun e => f0 e.symm)).cell 2 rfl
        have HS : Hid ((zs ++ [o.k, (lenO o : Int)] ++ o.zs.flatMap (fun z => putF z m)).length + o.s.size ≤ 1000000000) := Lib.hid (by
          have h1 : m * o.zs.length ≤ 4 * 100 := Nat.mul_le_mul hm4 (by have := HLn.out; omega)
          simp only [List.length_append, puts_lenO, List.length_cons, List.length_nil]
          omega)
        clear e3
        go_wp2_with (first
          | (at_builtin; refine wp_strB (by rfl) _ _ (by rfl) base _ _ o.s (by rfl) (by rfl) MM.out.1 HS.out (Nat.le_trans hbW hs) ?_; intro v6 w6 O6 G6))
        go_ret
        refine ⟨_, rfl, ?_, ?_⟩
        · rw [HB.out, ← List.append_assoc, ← List.append_assoc]; exact O6
        · exact ((L2.mono hb).trans (more_below OW.out MM.out hbW)).trans (below_push MM.out.1 G6 (Nat.le_trans hbW hs))
end Go.Proofs.Ytnkcnfkonifmhaa
