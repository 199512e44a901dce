/- For every two lists of events, the first fifty of each, pushed to two heaps, are, merged, in the order of the document's own lists, those of the first one ahead at one time; Sorted tells them in that order, and they wait still; a merge with itself, of nil and into nil merges nothing: HeapMerges returns true and changes nothing that was there. No conditions. -/
import Derived.Test.YtmdlbjeiokadaaaKit
import Derived.Test.YtmdlbjeiokadaaaHeapV
import Derived.Deep.DeepCutAuto
namespace Go.Proofs.Ytmdlbjeiokadaaa
namespace heapMerges
open Go.ChangeShapes Go.WideShapes Go.ChangeAt Go.RowKit
open Go.ChangeMaps (open_string shut_string)
set_option linter.unusedVariables false

theorem ev4_at {w : World} {a : Option Addr} {len cap : Nat} (h : IsRows w a len cap 4 [(0, Sum.inl IntKind.i64), (1, Sum.inl IntKind.i64), (2, Sum.inl IntKind.i64), (3, Sum.inl IntKind.i64)]) (hp : 0 < len) :
    ∃ b off, a = some ⟨b, off, none⟩ ∧ ∀ i, i < len → ∃ x0 x1 x2 x3 : Int, w.cell? ⟨b, off + i * 4, none⟩ = some (.int .i64 x0) ∧ w.cell? ⟨b, off + i * 4 + 1, none⟩ = some (.int .i64 x1) ∧ w.cell? ⟨b, off + i * 4 + 2, none⟩ = some (.int .i64 x2) ∧ w.cell? ⟨b, off + i * 4 + 3, none⟩ = some (.int .i64 x3) ∧ b < w.heap.size := by
  obtain ⟨b, off, rfl, _, _, h⟩ := rows_at h hp
  refine ⟨b, off, rfl, fun i hi => ?_⟩
  obtain ⟨u1, h1, x0, rfl, _⟩ := h i hi (0, .inl .i64) (by simp)
  obtain ⟨u2, h2, x1, rfl, _⟩ := h i hi (1, .inl .i64) (by simp)
  obtain ⟨u3, h3, x2, rfl, _⟩ := h i hi (2, .inl .i64) (by simp)
  obtain ⟨u4, h4, x3, rfl, _⟩ := h i hi (3, .inl .i64) (by simp)
  exact ⟨x0, x1, x2, x3, h1, h2, h3, h4, World.block_lt_of_cell? w _ h1⟩
theorem ms_start {w wa wb : World} (Q0 : HAt w w.heap.size w.heap.size [] 0 wa) (QY : IsHeap wb wa.heap.size wa.heap.size [] 0) (BY : Below wa.heap.size wa wb) :
    MS w w.heap.size wa.heap.size w.heap.size wa.heap.size [] [] 0 0 (.slice none 0 0) (.slice none 0 0) none 0 0 0 none 0 0 0 wb := by
  have h1 := Q0.1.lt
  have h2 := Q0.2.2.2.size
  have V : ∀ b g, VAt b g [] (.slice none 0 0) none 0 0 0 wb := fun b g => ⟨rfl, rfl, .inl ⟨rfl, rfl⟩, Nat.le_refl _, fun _ => rfl, fun h => absurd rfl h⟩
  exact ⟨Q0.kept BY, ⟨QY, by omega, by omega, new_then Q0.2.2.2 BY⟩, V _ _, V _ _, fun h => absurd rfl h, fun h => absurd rfl h, by omega, by omega, by omega, by omega⟩
def K1 (w : World) (bx by' : Nat) (vl : Value) (wr : World) : Prop := ∃ gX LX pX A N c gl, pX ≤ 50 ∧ MS w bx by' gX by' LX [] pX 0 vl (.slice none 0 0) A N c gl none 0 0 0 wr
def K2 (w : World) (bx by' gX : Nat) (LX : List Wt) (pX : Int) (vl : Value) (A : Option Addr) (N c gl : Nat) (vm : Value) (wr : World) : Prop := ∃ gY LY pY B M d gm, pY ≤ 50 ∧ MS w bx by' gX gY LX LY pX pY vl vm A N c gl B M d gm wr
def M1 (w : World) (bx by' na gh : Nat) (vi vl : Value) (wr : World) : Prop := ∃ k : Nat, vi = .int .i64 (k : Int) ∧ na - k = gh ∧ k ≤ na ∧ ∃ gX LX A N c gl, MS w bx by' gX by' LX [] (k : Int) 0 vl (.slice none 0 0) A N c gl none 0 0 0 wr
def M2 (w : World) (bx by' gX : Nat) (LX : List Wt) (pX : Int) (vl : Value) (A : Option Addr) (N c gl nb gh : Nat) (vi vm : Value) (wr : World) : Prop := ∃ k : Nat, vi = .int .i64 (k : Int) ∧ nb - k = gh ∧ k ≤ nb ∧ ∃ gY LY B M d gm, MS w bx by' gX gY LX LY pX (k : Int) vl vm A N c gl B M d gm wr
def M3 (w : World) (bx by' g1 gY : Nat) (LF : List Wt) (pF pY : Int) (gm : Nat) (B : Option Addr) (EX EY : List Ev) (M gh : Nat) (vi vl : Value) (wr : World) : Prop :=
  ∃ (k : Nat) (A : Option Addr) (N c gl : Nat), vi = .int .i64 (k : Int) ∧ M - k = gh ∧ k ≤ M ∧ vl = .slice A N c ∧ (pushAllE EX (EY.take k)).length = N ∧ LstE wr gl A (pushAllE EX (EY.take k)) ∧ N ≤ c ∧ (A = none → c = 0) ∧ (pushAllE EX (EY.take k) ≠ [] → gl ≠ bx ∧ gl ≠ g1) ∧ N ≤ 1000 + k ∧
    HAt w bx g1 LF pF wr ∧ HAt w by' gY [] pY wr ∧ LstE wr gm B EY
def M4 (w : World) (bx : Nat) (LF : List Wt) (pF : Int) (gs gl : Nat) (A : Option Addr) (N gh : Nat) (vi : Value) (wr : World) : Prop :=
  ∃ k g : Nat, vi = .int .i64 (k : Int) ∧ N - k = gh ∧ k ≤ N ∧ HAt w bx g (LF.drop k) pF wr ∧ (∀ i, i < N → Four wr gs (i * 4) (nthE (LF.map Wt.ev) i)) ∧ LstE wr gl A (LF.map Wt.ev) ∧ gs ≠ bx ∧ gs ≠ g ∧ (LF ≠ [] → gl ≠ bx ∧ gl ≠ g)
theorem merged_x {w wc wm : World} {bx by' gX g1 : Nat} {LF : List Wt} {pF : Int} (hB : Below w.heap.size w wc) (HX : IsHeap wm bx g1 LF pF) (hb : w.heap.size ≤ bx) (hg : w.heap.size ≤ gX) (hy : w.heap.size ≤ by') (hg1 : g1 = gX ∨ wc.heap.size ≤ g1) (om : Out (footM bx gX by') wc wm) : HAt w bx g1 LF pF wm := by
  have s := hB.size
  refine ⟨HX, hb, by omega, hB.trans (om.below s (fun k hk => ?_))⟩
  rcases hk with (rfl | rfl) | rfl <;> assumption
theorem not_footM {bx gX by' k : Nat} (h1 : k ≠ bx) (h2 : k ≠ gX) (h3 : k ≠ by') : ¬ footM bx gX by' k := by
  rintro ((h | h) | h)
  · exact h1 h
  · exact h2 h
  · exact h3 h
theorem nthE_map {L : List Wt} {k : Nat} {y : Wt} {R : List Wt} (h : L.drop k = y :: R) : nthE (L.map Wt.ev) k = y.ev := by
  have h1 : (L.drop k)[0]? = some y := by rw [h]; rfl
  rw [List.getElem?_drop, Nat.add_zero] at h1
  unfold nthE
  rw [List.getElem?_map, h1]
  rfl
theorem take_next2 {L R : List Wt} {x : Wt} {k : Nat} (h : L.drop k = x :: R) : L.drop (k + 1) = R := by
  rw [← List.tail_drop, h]; rfl
theorem neq_same (t : TypeId) (hS : Try.prog.underlying t = some (.struct (Try.prog.fieldsOf t))) (hp : Try.prog.stoodInHeld t = false) (x0 x1 x2 x3 : Int)
    (he : ∀ w, (Op.eqFields 9999 #[.int .i64 x0, .int .i64 x1, .int .i64 x2, .int .i64 x3] #[.int .i64 x0, .int .i64 x1, .int .i64 x2, .int .i64 x3] (Try.prog.fieldsOf t).toList).run Try.prog w = .ok true w) (w : World) :
    (binOp .neq t (.agg #[.int .i64 x0, .int .i64 x1, .int .i64 x2, .int .i64 x3]) (.agg #[.int .i64 x0, .int .i64 x1, .int .i64 x2, .int .i64 x3])).run Try.prog w = .ok (.bool false) w := by
  rw [run_neq_struct, show (10000 : Nat) = 9999 + 1 from rfl, run_equalIn_agg w 9999 t _ _ hS hp, he]
  rfl
theorem neq27 (x0 x1 x2 x3 : Int) (w : World) : (binOp .neq 27 (.agg #[.int .i64 x0, .int .i64 x1, .int .i64 x2, .int .i64 x3]) (.agg #[.int .i64 x0, .int .i64 x1, .int .i64 x2, .int .i64 x3])).run Try.prog w = .ok (.bool false) w := by
  refine neq_same _ (by kernel_rfl) (by kernel_rfl) x0 x1 x2 x3 (fun w => ?_) w
  simp only [Program.fieldsOf, Try.underlying27]
  go_simp
theorem neq37 (x0 x1 x2 x3 : Int) (w : World) : (binOp .neq 37 (.agg #[.int .i64 x0, .int .i64 x1, .int .i64 x2, .int .i64 x3]) (.agg #[.int .i64 x0, .int .i64 x1, .int .i64 x2, .int .i64 x3])).run Try.prog w = .ok (.bool false) w := by
  refine neq_same _ (by kernel_rfl) (by kernel_rfl) x0 x1 x2 x3 (fun w => ?_) w
  simp only [Program.fieldsOf, Try.underlying37]
  go_simp
theorem own : ownKnob Try.prog.godebug = none := by kernel_rfl
theorem laidOut : laidOutB Try.prog = true := by kernel_rfl

set_option maxHeartbeats 4000000 in
set_option maxRecDepth 100000 in
theorem walk (a0 : Option Addr) (len0 cap0 : Nat) (a1 : Option Addr) (len1 cap1 : Nat) (w : World) (w0 : IsRows w a0 len0 cap0 4 [(0, .inl .i64), (1, .inl .i64), (2, .inl .i64), (3, .inl .i64)]) (w1 : IsRows w a1 len1 cap1 4 [(0, .inl .i64), (1, .inl .i64), (2, .inl .i64), (3, .inl .i64)]) :
    Calls Try.prog 6 #[.slice a0 len0 cap0, .slice a1 len1 cap1] w fun e w' => e = .returned (.bool true) ∧ Below w.heap.size w w' := by
  have HW0 := Lib.hid w0
  have HW1 := Lib.hid w1
  clear w0 w1
  obtain ⟨na, hna⟩ : ∃ n, n = min len0 50 := ⟨_, rfl⟩
  obtain ⟨nb, hnb⟩ : ∃ n, n = min len1 50 := ⟨_, rfl⟩
  go_enter Try.func6, Try.ntmps6
  go_upto_block 0 with (first
    | (go_at_call 7; have h := Q0; clear h; refine (newH _).mono ?_; rintro e wb ⟨rfl, QY, BY⟩)
    | (go_at_call 7; refine (newA w).mono ?_; rintro e wa ⟨rfl, Q0⟩))
  have S0 := Lib.hid (ms_start Q0 QY BY)
  clear Q0 QY BY
  generalize wa.heap.size = by' at S0 ⊢
  go_cut [7] (fun vl wx => K1 w w.heap.size by' vl wx)
  case first =>
    go_wp2_with fail
    go_loopg [9, 7] na (fun gh vi vl wr => M1 w w.heap.size by' na gh vi vl wr)
    case atStart => exact ⟨0, rfl, rfl, by omega, _, _, _, _, _, _, S0.out⟩
    case round =>
      clear S0
      obtain ⟨k, rfl, rfl, hk, gX, LX, A, N, c, gl, hM⟩ := hrel
      obtain rfl := hM.lx.1
      have k0 : (0 : Int) ≤ (k : Int) := by omega
      by_cases hlt : k < na
      · obtain ⟨bl, off, rfl, hel⟩ := ev4_at HW0.out (by omega)
        obtain ⟨x0, x1, x2, x3, e0, e1, e2, e3, hbl⟩ := hel k (by omega)
        clear hel
        have Bl := hM.hx.2.2.2
        have c0 := cell_low Bl hbl e0
        have c1 := cell_low Bl hbl e1
        have c2 := cell_low Bl hbl e2
        have c3 := cell_low Bl hbl e3
        have k1 : (k : Int) < (len0 : Int) := by omega
        have k2 : (k : Int) < 50 := by omega
        have hp1 : (k : Int) < 1000000 := by omega
        have hgE : LX.map Wt.ev ≠ [] → gl ≠ w.heap.size ∧ gl ≠ gX := fun h => hM.lx.2.2.2.2.2 (ev_nil.1 h)
        have HNE : Hid ((LX.map Wt.ev).length = N) := Lib.hid (by rw [List.length_map]; exact hM.lx.2.1)
        have hNb : N ≤ 1000000 := by have h1 := hM.hx.1.2.2.2; have h2 := hM.lx.2.1; omega
        have hc := hM.lx.2.2.2.1
        have hA := hM.lx.2.2.2.2.1
        have HM := Lib.hid hM
        clear hM
        go_wp2_with (first
          | (go_at_call 12; refine (pushA ⟨x0, x1, x2, x3⟩ HM.out.hx hp1).mono ?_; rintro e w1 ⟨g1, rfl, Q1, hg1, o1⟩; have l1 := lst_foot HM.out.lx.2.2.1 hgE o1; have y0 := cell_low Q1.2.2.2 hbl e0; have y1 := cell_low Q1.2.2.2 hbl e1; have y2 := cell_low Q1.2.2.2 hbl e2; have y3 := cell_low Q1.2.2.2 hbl e3)
          | (go_at_call 14; refine (event_any ⟨x0, x1, x2, x3⟩ _).mono ?_; rintro e w2 ⟨rfl, B2⟩)
          | (go_at_call 13; refine (refPush6_any gl c N A ⟨x0, x1, x2, x3⟩ (LX.map Wt.ev) _ (l1.kept B2) HNE.out hc hA hNb).mono ?_; rintro e w3 ⟨g3, c3', rfl, h31, h32, l3, hc3, B3⟩))
        go_roundg (na - (k + 1))
        case measure => omega
        case rel =>
          have R := HM.out.push Q1 hg1 o1 B2 h31 h32 l3 hc3 B3
          rw [show (k : Int) + 1 = ((k + 1 : Nat) : Int) by omega] at R
          exact ⟨k + 1, by go_num, rfl, by omega, _, _, _, _, _, _, R⟩
      · obtain rfl : k = na := by omega
        have HM := Lib.hid hM
        clear hM
        by_cases h50 : k < len0
        · have k1 : (k : Int) < (len0 : Int) := by omega
          have k2 : (50 : Int) ≤ (k : Int) := by omega
          go_wp2_with fail
          go_meet
          case rel => exact ⟨gX, LX, (k : Int), A, N, c, gl, by omega, HM.out⟩
        · have k1 : (len0 : Int) ≤ (k : Int) := by omega
          go_wp2_with fail
          go_meet
          case rel => exact ⟨gX, LX, (k : Int), A, N, c, gl, by omega, HM.out⟩
  case rest =>
    clear S0
    obtain ⟨gX, LX, pX, A, N, c, gl, hpX, hM0⟩ := hcut
    obtain rfl := hM0.lx.1
    go_upto_block 2 with (fail)
    have S0 := Lib.hid hM0
    clear hM0
    go_cut [8] (fun vm wx => K2 w w.heap.size by' gX LX pX (.slice A N c) A N c gl vm wx)
    case first =>
      go_wp2_with fail
      go_loopg [10, 8] nb (fun gh vi vm wr => M2 w w.heap.size by' gX LX pX (.slice A N c) A N c gl nb gh vi vm wr)
      case atStart => exact ⟨0, rfl, rfl, by omega, _, _, _, _, _, _, S0.out⟩
      case round =>
        clear S0
        obtain ⟨k, rfl, rfl, hk, gY, LY, B, M, d, gm, hM⟩ := hrel
        obtain rfl := hM.ly.1
        have k0 : (0 : Int) ≤ (k : Int) := by omega
        by_cases hlt : k < nb
        · obtain ⟨bl, off, rfl, hel⟩ := ev4_at HW1.out (by omega)
          obtain ⟨x0, x1, x2, x3, e0, e1, e2, e3, hbl⟩ := hel k (by omega)
          clear hel
          have Bl := hM.hx.2.2.2
          have c0 := cell_low Bl hbl e0
          have c1 := cell_low Bl hbl e1
          have c2 := cell_low Bl hbl e2
          have c3 := cell_low Bl hbl e3
          have k1 : (k : Int) < (len1 : Int) := by omega
          have k2 : (k : Int) < 50 := by omega
          have hp1 : (k : Int) < 1000000 := by omega
          have hgE : LY.map Wt.ev ≠ [] → gm ≠ by' ∧ gm ≠ gY := fun h => hM.ly.2.2.2.2.2 (ev_nil.1 h)
          have HNE : Hid ((LY.map Wt.ev).length = M) := Lib.hid (by rw [List.length_map]; exact hM.ly.2.1)
          have hNb : M ≤ 1000000 := by have h1 := hM.hy.1.2.2.2; have h2 := hM.ly.2.1; omega
          have hc := hM.ly.2.2.2.1
          have hA := hM.ly.2.2.2.2.1
          have HM := Lib.hid hM
          clear hM
          go_wp2_with (first
            | (go_at_call 12; refine (pushA ⟨x0, x1, x2, x3⟩ HM.out.hy hp1).mono ?_; rintro e w1 ⟨g1, rfl, Q1, hg1, o1⟩; have l1 := lst_foot HM.out.ly.2.2.1 hgE o1; have y0 := cell_low Q1.2.2.2 hbl e0; have y1 := cell_low Q1.2.2.2 hbl e1; have y2 := cell_low Q1.2.2.2 hbl e2; have y3 := cell_low Q1.2.2.2 hbl e3)
            | (go_at_call 14; refine (event_any ⟨x0, x1, x2, x3⟩ _).mono ?_; rintro e w2 ⟨rfl, B2⟩)
            | (go_at_call 13; refine (refPush6_any gm d M B ⟨x0, x1, x2, x3⟩ (LY.map Wt.ev) _ (l1.kept B2) HNE.out hc hA hNb).mono ?_; rintro e w3 ⟨g3, c3', rfl, h31, h32, l3, hc3, B3⟩))
          go_roundg (nb - (k + 1))
          case measure => omega
          case rel =>
            have R := (HM.out.swap.push Q1 hg1 o1 B2 h31 h32 l3 hc3 B3).swap
            rw [show (k : Int) + 1 = ((k + 1 : Nat) : Int) by omega] at R
            exact ⟨k + 1, by go_num, rfl, by omega, _, _, _, _, _, _, R⟩
        · obtain rfl : k = nb := by omega
          have HM := Lib.hid hM
          clear hM
          by_cases h50 : k < len1
          · have k1 : (k : Int) < (len1 : Int) := by omega
            have k2 : (50 : Int) ≤ (k : Int) := by omega
            go_wp2_with fail
            go_meet
            case rel => exact ⟨gY, LY, (k : Int), B, M, d, gm, by omega, HM.out⟩
          · have k1 : (len1 : Int) ≤ (k : Int) := by omega
            go_wp2_with fail
            go_meet
            case rel => exact ⟨gY, LY, (k : Int), B, M, d, gm, by omega, HM.out⟩
    case rest =>
      clear S0
      obtain ⟨gY, LY, pY, B, M, d, gm, hpY, hM⟩ := hcut
      obtain rfl := hM.ly.1
      have hN := hM.lx.2.1
      have hMl := hM.ly.2.1
      have hN50 : N ≤ 50 := by have h1 := hM.hx.1.2.2.2; omega
      have hM50 : M ≤ 50 := by have h1 := hM.hy.1.2.2.2; omega
      have HMT := Lib.hid (merge_two w.heap.size gX by' gY M LX LY pX pY wc hM.hx.1 hM.hy.1 hM.d1 hM.d2 hM.d3 hM.d4 hMl (by omega))
      have HLF : Hid ((pushAll LX pX (LY.map Wt.ev)).length = N + M) := Lib.hid (by rw [pushAll_len, List.length_map, hN, hMl])
      have HM := Lib.hid hM
      have HN := Lib.hid hN
      have HMl := Lib.hid hMl
      clear hM hN hMl
      go_upto_block 4 with (first
        | (go_at_call 18; have h := KB; clear h; refine HMT.out.mono ?_; rintro e wm ⟨g1, rfl, HX, HY, hg1, om⟩)
        | (go_at_call 18; have h := KA; clear h; refine (merge_nil _ _).mono ?_; rintro e w2 ⟨rfl, rfl⟩; have KB : True := trivial)
        | (go_at_call 18; refine (merge_self _ _).mono ?_; rintro e w1 ⟨rfl, rfl⟩; have KA : True := trivial)
        | (go_at_call_of 16 (Value.pointer (some ⟨by', 0, none⟩)); refine (lenH by' gY 0 [] pY _ HY rfl).mono ?_; rintro e w4 ⟨rfl, rfl⟩)
        | (go_at_call_of 16 (Value.pointer (some ⟨w.heap.size, 0, none⟩)); refine (lenH w.heap.size g1 (N + M) _ _ _ HX HLF.out).mono ?_; rintro e w5 ⟨rfl, rfl⟩))
      have hM := HM.out
      have QX := merged_x hM.hx.2.2.2 HX hM.hx.2.1 hM.hx.2.2.1 hM.hy.2.1 hg1 om
      have QY : HAt w by' gY [] pY wm := ⟨HY, hM.hy.2.1, hM.hy.2.2.1, QX.2.2.2⟩
      have gE : LX ≠ [] → gl ≠ w.heap.size ∧ gl ≠ gX := hM.lx.2.2.2.2.2
      have gF : LY ≠ [] → gm ≠ by' ∧ gm ≠ gY := hM.ly.2.2.2.2.2
      have hl : LstE wm gl A (LX.map Wt.ev) := hM.lx.2.2.1.outs om (fun h => not_footM (gE (ev_nil.1 h)).1 (gE (ev_nil.1 h)).2 (hM.nx (ev_nil.1 h)).1)
      have hm : LstE wm gm B (LY.map Wt.ev) := hM.ly.2.2.1.outs om (fun h => not_footM (hM.ny (ev_nil.1 h)).1 (hM.ny (ev_nil.1 h)).2 (gF (ev_nil.1 h)).1)
      have hgl : LX ≠ [] → gl ≠ w.heap.size ∧ gl ≠ g1 := fun h => ⟨(gE h).1, new_far hg1 (gE h).2 (hM.lx.2.2.1.lt (ev_nil.2 h))⟩
      have hLE := pushAll_ev (LY.map Wt.ev) LX pX
      generalize hLF : pushAll LX pX (LY.map Wt.ev) = LF at QX hLE HLF
      have S3 : Hid (M3 w w.heap.size by' g1 gY LF (pX + (M : Int)) pY gm B (LX.map Wt.ev) (LY.map Wt.ev) M M (.int .i64 0) (.slice A N c) wm) :=
        Lib.hid ⟨0, A, N, c, gl, rfl, rfl, by omega, rfl, by simp [pushAllE, HN.out], by simpa [pushAllE] using hl, hM.lx.2.2.2.1, hM.lx.2.2.2.2.1, fun h => hgl (fun e => h (by rw [e]; rfl)), by omega, QX, QY, hm⟩
      have HME : Hid ((LY.map Wt.ev).length = M) := Lib.hid (by rw [List.length_map]; exact HMl.out)
      have HLE := Lib.hid hLE
      have m0 : (0 : Int) ≤ (M : Int) := by omega
      have bw := hM.hx.2.2.2.size
      clear hM QX QY gE gF hl hm hgl hLE hLF HMT HX HY hg1 om HM HN KA KB
      go_wp2_with fail
      go_loopg [99, 7] M (fun gh vi vl wr => M3 w w.heap.size by' g1 gY LF (pX + (M : Int)) pY gm B (LX.map Wt.ev) (LY.map Wt.ev) M gh vi vl wr)
      case atStart => exact S3.out
      case round =>
        clear S3
        obtain ⟨k, A, N', c, gl, rfl, rfl, hk, rfl, hN', hl, hc, hA, hg, hN1, QX, QY, hm⟩ := hrel
        have k0 : (0 : Int) ≤ (k : Int) := by omega
        by_cases hlt : k < M
        · rcases hm with ⟨_, e⟩ | ⟨off, rfl, hF⟩
          · have := HME.out; rw [e] at this; simp at this; omega
          obtain ⟨a0', a1', a2', a3'⟩ := hF k (by rw [HME.out]; exact hlt)
          have hm : LstE wr gm (some ⟨gm, off, none⟩) (LY.map Wt.ev) := .inr ⟨off, rfl, hF⟩
          generalize hx : nthE (LY.map Wt.ev) k = x at a0' a1' a2' a3'
          have HX := Lib.hid hx
          have Hm := Lib.hid hm
          have Hl := Lib.hid hl
          have HN' := Lib.hid hN'
          have HQX := Lib.hid QX
          have HQY := Lib.hid QY
          have hNb : N' ≤ 1000000 := by omega
          have k1 : (k : Int) < (M : Int) := by omega
          have s1 := QX.1.lt
          clear hx hm hl hN' QX QY hF
          go_wp2_with (first
            | (go_at_call 13; refine (refPush6_any gl c N' A x _ _ Hl.out HN'.out hc hA hNb).mono ?_; rintro e w3 ⟨g3, c3', rfl, h31, h32, l3, hc3, B3⟩))
          go_roundg (M - (k + 1))
          case measure => omega
          case rel =>
            have en := pushAllE_next (L := LX.map Wt.ev) (by rw [HME.out]; exact hlt) HX.out
            refine ⟨k + 1, _, N' + 1, c3', g3, by go_num, rfl, by omega, rfl, ?_, ?_, hc3, fun h => (by cases h), fun _ => ⟨by omega, by omega⟩, by omega, HQX.out.kept B3, HQY.out.kept B3, Hm.out.kept B3⟩
            · rw [en, insE_len, HN'.out]
            · rw [en]; exact l3
        · obtain rfl : k = M := by omega
          have e1 : (LY.map Wt.ev).take k = LY.map Wt.ev := List.take_of_length_le (by rw [HME.out]; omega)
          rw [e1, ← HLE.out] at hN' hl hg
          have hLl : LF.length = N' := by rw [← hN', List.length_map]
          have HL := Lib.hid hLl
          have Hl := Lib.hid hl
          have HQX := Lib.hid QX
          have HQY := Lib.hid QY
          have s1 := QX.1.lt
          have n0 : (0 : Int) ≤ (N' : Int) := by omega
          clear hm hN' hl hLl QX QY e1
          go_upto_block 6 with (first
            | (go_at_call_of 19 (Value.pointer (some ⟨w.heap.size, 0, none⟩)); refine (sortedH w.heap.size g1 N' LF _ _ HQX.out.1 HL.out).mono ?_; rintro e ws ⟨gs, cs, rfl, OS, BS⟩)
            | (go_at_call_of 19 (Value.pointer (some ⟨by', 0, none⟩)); refine (sortedH by' gY 0 [] pY _ (HQY.out.kept BS).1 rfl).mono ?_; rintro e wt ⟨gt, ct, rfl, OT, BT⟩))
          have hgs := OS.lt encE_is
          have S4 : Hid (M4 w w.heap.size LF (pX + (k : Int)) gs gl A N' N' (.int .i64 0) wt) := Lib.hid ⟨0, g1, rfl, rfl, by omega, (HQX.out.kept BS).kept BT, fun i hi => (own_fourH OS (by rw [List.length_map, HL.out]; exact hi)).out (Out.of BT (fun _ => False)) (fun x => x), (Hl.out.kept BS).kept BT, by omega, by omega, fun h => hg (ev_nil.2 h)⟩
          clear OS OT BS BT Hl HQX HQY
          go_wp2_with fail
          go_loopg [124] N' (fun gh vi wr => M4 w w.heap.size LF (pX + (k : Int)) gs gl A N' gh vi wr)
          case atStart => exact S4.out
          case round =>
            clear S4
            obtain ⟨j, g, rfl, rfl, hj, Q, hS, hl, q1, q2, q3⟩ := hrel
            have j0 : (0 : Int) ≤ (j : Int) := by omega
            by_cases hlt2 : j < N'
            · obtain ⟨y, R, hd⟩ : ∃ y R, LF.drop j = y :: R := by
                cases hq : LF.drop j with
                | nil => have := HL.out; rw [List.drop_eq_nil_iff] at hq; omega
                | cons y R => exact ⟨y, R, rfl⟩
              have hne : LF ≠ [] := fun e => by rw [e] at hd; simp at hd
              rcases hl with ⟨_, e⟩ | ⟨off, rfl, hF⟩
              · exact absurd e (ev_nil.2 hne)
              have hy := nthE_map hd
              have h4s := hS j hlt2
              have h4l := hF j (by rw [List.length_map, HL.out]; exact hlt2)
              rw [hy] at h4s h4l
              rw [hd] at Q
              have HD := Lib.hid (take_next2 hd)
              have Hl : Hid (LstE wr gl (some ⟨gl, off, none⟩) (LF.map Wt.ev)) := Lib.hid (.inr ⟨off, rfl, hF⟩)
              have HS := Lib.hid hS
              have j1 : (j : Int) < (N' : Int) := by omega
              obtain ⟨q4, q5⟩ := q3 hne
              have z1 : gs < wr.heap.size := World.block_lt_of_cell? wr _ h4s.1
              have z2 : gl < wr.heap.size := World.block_lt_of_cell? wr _ h4l.1
              obtain ⟨y0, y1, y2, y3, yt⟩ := y
              clear hd hy hF hS
              go_upto_region 27 with (first
                | (go_at_call 8; refine (popA Q).mono ?_; rintro e w1 ⟨g', rfl, Q1, hg', o1⟩))
              have BA := new_alloc (new_refl w1) (.cells #[.int .i64 y0, .int .i64 y1, .int .i64 y2, .int .i64 y3] 27)
              have s4 : Four (w1.alloc (.cells #[.int .i64 y0, .int .i64 y1, .int .i64 y2, .int .i64 y3] 27)) gs (j * 4) ⟨y0, y1, y2, y3⟩ := (h4s.out o1 (not_footH q1 q2)).out (Out.of BA (fun _ => False)) (fun x => x)
              have l4 : Four (w1.alloc (.cells #[.int .i64 y0, .int .i64 y1, .int .i64 y2, .int .i64 y3] 27)) gl (off + j * 4) ⟨y0, y1, y2, y3⟩ := (h4l.out o1 (not_footH q4 q5)).out (Out.of BA (fun _ => False)) (fun x => x)
              have E4 := Blk.new w1 [.int .i64 y0, .int .i64 y1, .int .i64 y2, .int .i64 y3] 27
              have Q2 := Lib.hid (Q1.kept BA)
              have o2 := Lib.hid ((Out.of BA (footH w.heap.size g)).size)
              have OA := Lib.hid (o1.new BA)
              have hq27 := neq27 y0 y1 y2 y3
              have hq37 := neq37 y0 y1 y2 y3
              generalize w1.alloc (.cells #[.int .i64 y0, .int .i64 y1, .int .i64 y2, .int .i64 y3] 27) = W at s4 l4 E4 Q2 OA o2 BA ⊢
              generalize w1.heap.size = eb at E4 ⊢
              obtain ⟨s0, s1', s2, s3⟩ := s4
              obtain ⟨l0, l1, l2, l3⟩ := l4
              have e0 := E4.cell 0 rfl
              have e1 := E4.cell 1 rfl
              have e2 := E4.cell 2 rfl
              have e3 := E4.cell 3 rfl
              clear BA Q1 o1 h4s h4l Q o2
              go_region_held3 (fun w' => w'.cell? ⟨eb, 0, none⟩ = some (.int .i64 y0) ∧ w'.cell? ⟨eb, 1, none⟩ = some (.int .i64 y1) ∧ w'.cell? ⟨eb, 2, none⟩ = some (.int .i64 y2) ∧ w'.cell? ⟨eb, 3, none⟩ = some (.int .i64 y3) ∧
                  w'.cell? ⟨gs, j * 4, none⟩ = some (.int .i64 y0) ∧ w'.cell? ⟨gs, j * 4 + 1, none⟩ = some (.int .i64 y1) ∧ w'.cell? ⟨gs, j * 4 + 2, none⟩ = some (.int .i64 y2) ∧ w'.cell? ⟨gs, j * 4 + 3, none⟩ = some (.int .i64 y3) ∧
                  w'.cell? ⟨gl, off + j * 4, none⟩ = some (.int .i64 y0) ∧ w'.cell? ⟨gl, off + j * 4 + 1, none⟩ = some (.int .i64 y1) ∧ w'.cell? ⟨gl, off + j * 4 + 2, none⟩ = some (.int .i64 y2) ∧ w'.cell? ⟨gl, off + j * 4 + 3, none⟩ = some (.int .i64 y3))
                (first | exact ⟨cell_kept BE e0, cell_kept BE e1, cell_kept BE e2, cell_kept BE e3, cell_kept BE s0, cell_kept BE s1', cell_kept BE s2, cell_kept BE s3, cell_kept BE l0, cell_kept BE l1, cell_kept BE l2, cell_kept BE l3⟩ | go_keep)
                (first | (go_at_call 14; refine (event_any ⟨y0, y1, y2, y3⟩ _).mono ?_; rintro e w2 ⟨rfl, BE0⟩; have BE := new_undrew BE0))
              all_goals
                go_wp2_with fail
                go_roundg (N' - (j + 1))
                case measure => omega
                case rel =>
                  have ow := (OA.out.new BE)
                  have oz := OA.out.size
                  refine ⟨j + 1, g', by go_num, rfl, by omega, ?_, fun i hi => (HS.out i hi).out ow (not_footH q1 q2), Hl.out.outs ow (fun _ => not_footH q4 q5), q1, by omega, fun _ => ⟨q4, by omega⟩⟩
                  rw [HD.out]
                  exact Q2.out.kept BE
            · obtain rfl : j = N' := by omega
              clear hS hl
              go_wp2_with (first
                | (go_at_call 18; refine (merge_into _ _).mono ?_; rintro e w1 ⟨rfl, rfl⟩)
                | (go_at_call 19; refine (sorted_nilH _).mono ?_; rintro e w2 ⟨rfl, rfl⟩)
                | (go_at_call 17; refine (works06_any _).mono ?_; rintro e w3 ⟨rfl, B3⟩))
              go_ret
              exact ⟨rfl, new_then Q.2.2.2 B3⟩

set_option maxRecDepth 100000 in
theorem lifted (os : Os) (started : os.Started) (H : Type) (enc : TypeId × Value → H) :
    ReturnsInHanded {} Try.checked os 6 .any (Rows.heapMergesSpec.pre6 enc Try.prog Try.f6 Rows.heapMergesRow.domain false) (Rows.heapMergesSpec.post enc Try.prog Try.f6 false true false false) := by
  refine returnsInHanded_of_change (C := Try.checked) own started (by kernel_rfl) Try.func6
    (ChangeSpec.witness6 (enc := enc) (C := Try.checked) false ⟨#[], #[.slice none 0 0, .slice none 0 0], []⟩ 8 (by kernel_rfl) (by kernel_rfl) (by kernel_rfl) (by kernel_rfl)) ?_
  intro W base args ds gs before hval0 hW hcnd _
  have hval : ∀ (j : Nat) t v, Try.f6.params[j]? = some t → args[j]? = some v → Value.okWide Try.prog W .any base t v := hval0
  have hW' := hW
  obtain ⟨p, q, hA0, hV, rfl, hfz, hnd⟩ := hW
  have hA : DataW.TrodAll enc Try.prog W 0 (fun _ => true) true Try.f6.params.toList args.toList ds p := hA0
  rw [Try.params6] at hA hval
  obtain ⟨v0, vs0, d0, ds0, p0, q0, hargs, rfl, rfl, h0, r0⟩ := trodAll_cons hA
  obtain ⟨v1, vs1, d1, ds1, p1, q1, rfl, rfl, rfl, h1, r1⟩ := trodAll_cons r0
  obtain ⟨rfl, rfl, rfl⟩ := trodAll_nil r1
  obtain rfl : args = #[v0, v1] := by cases args; simp_all
  obtain ⟨rfl, rfl⟩ := trodVars_none hV
  have k0 := h0
  have lt0 : ∀ x ∈ p0, x.block < W.heap.size := by obtain ⟨m, hm⟩ := k0; exact DataW.trod_lt m _ _ _ hm
  obtain ⟨a0, len0, cap0, rfl⟩ := okWide_slice Try.underlying46 (hval 0 46 v0 rfl rfl)
  have w0 := isRows_of (n := 4) (ls := [(0, .inl .i64), (1, .inl .i64), (2, .inl .i64), (3, .inl .i64)]) Try.underlying46 (by kernel_rfl) (by kernel_rfl) (by decide) h0
  have k1 := h1
  have lt1 : ∀ x ∈ p1, x.block < W.heap.size := by obtain ⟨m, hm⟩ := k1; exact DataW.trod_lt m _ _ _ hm
  obtain ⟨a1, len1, cap1, rfl⟩ := okWide_slice Try.underlying46 (hval 1 46 v1 rfl rfl)
  have w1 := isRows_of (n := 4) (ls := [(0, .inl .i64), (1, .inl .i64), (2, .inl .i64), (3, .inl .i64)]) Try.underlying46 (by kernel_rfl) (by kernel_rfl) (by decide) h1
  clear hA0 hval0
  refine (walk a0 len0 cap0 a1 len1 cap1 W w0 w1).mono fun e W' ⟨he, bel⟩ => ?_
  subst he
  exact ⟨_, rfl, _, _, _, [], _, [], hW', trodAll_mk1 (shut_bool Try.underlying4 _), (trodAll_cons_mk (Below.trod laidOut (by kernel_rfl) (of_decide_eq_true (by kernel_rfl)) k0 bel lt0) (trodAll_cons_mk (Below.trod laidOut (by kernel_rfl) (of_decide_eq_true (by kernel_rfl)) k1 bel lt1) trodAll_mk0)), rfl, bel.frame _, fun h => by cases h⟩

theorem over : Rows.heapMergesRow.holds Try.pinned (OpenSpec.ofChange Rows.heapMergesSpec) :=
  OpenClaim.holds_of_wide 6 Try.f6 rfl rfl rfl rfl rfl rfl rfl ⟨rfl, rfl, rfl, rfl, rfl⟩ rfl rfl rfl rfl rfl (by kernel_rfl) Try.func6 (by kernel_rfl)
    (of_decide_eq_true (by kernel_rfl)) (by unfold Func.isWrapper; first | (rw [if_pos (by decide +kernel)]; kernel_rfl) | (rw [if_neg (by decide +kernel)]; exact ⟨rfl, rfl⟩))
    (fun os started H enc _ => lifted os started H enc)
end heapMerges
theorem heapMerges_holds : Rows.HeapMergesSaid := heapMerges.over
end Go.Proofs.Ytmdlbjeiokadaaa
