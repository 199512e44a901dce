/- For every list of pushes, pops and drops, a heap answers each of the first sixty as the document's own list does, has as many events and the same first one behind each, and is emptied in that list's order: HeapPlays returns true and changes nothing that was there. No conditions. -/
import Derived.Test.YtmdlbjeiokadaaaKit
import Derived.Test.YtmdlbjeiokadaaaHeapL
import Derived.Deep.DeepCutAuto
namespace Go.Proofs.Ytmdlbjeiokadaaa
namespace heapPlays
open Go.ChangeShapes Go.WideShapes Go.ChangeAt Go.RowKit
open Go.ChangeMaps (open_string shut_string)
set_option linter.unusedVariables false

theorem act5_at {w : World} {a : Option Addr} {len cap : Nat} (h : IsRows w a len cap 5 [(0, Sum.inl IntKind.i64), (1, Sum.inl IntKind.i64), (2, Sum.inl IntKind.i64), (3, Sum.inl IntKind.i64), (4, Sum.inl IntKind.i64)]) (hp : 0 < len) :
    ∃ b off, a = some ⟨b, off, none⟩ ∧ ∀ i, i < len → ∃ t x0 x1 x2 x3 : Int, w.cell? ⟨b, off + i * 5, none⟩ = some (.int .i64 t) ∧ w.cell? ⟨b, off + i * 5 + 1, none⟩ = some (.int .i64 x0) ∧ w.cell? ⟨b, off + i * 5 + 2, none⟩ = some (.int .i64 x1) ∧ w.cell? ⟨b, off + i * 5 + 3, none⟩ = some (.int .i64 x2) ∧ w.cell? ⟨b, off + i * 5 + 4, none⟩ = some (.int .i64 x3) ∧ b < w.heap.size := by
  obtain ⟨b, off, rfl, _, _, h⟩ := rows_at h hp
  refine ⟨b, off, rfl, fun i hi => ?_⟩
  obtain ⟨u0, h0, t, rfl, _⟩ := h i hi (0, .inl .i64) (by simp)
  obtain ⟨u1, h1, x0, rfl, _⟩ := h i hi (1, .inl .i64) (by simp)
  obtain ⟨u2, h2, x1, rfl, _⟩ := h i hi (2, .inl .i64) (by simp)
  obtain ⟨u3, h3, x2, rfl, _⟩ := h i hi (3, .inl .i64) (by simp)
  obtain ⟨u4, h4, x3, rfl, _⟩ := h i hi (4, .inl .i64) (by simp)
  exact ⟨t, x0, x1, x2, x3, h0, h1, h2, h3, h4, World.block_lt_of_cell? w _ h0⟩
def PlInv (w : World) (b len gh : Nat) (vi vl : Value) (wr : World) : Prop := ∃ k : Nat, k ≤ len ∧ len - k = gh ∧ vi = .int .i64 (k : Int) ∧ k ≤ 60 ∧ PAt w b k vl wr
def EndInv (w : World) (b gh : Nat) (vl : Value) (wr : World) : Prop := ∃ gH p L A c gl, HAt w b gH L p wr ∧ VAt b gH L vl A gh c gl wr
theorem own : ownKnob Try.prog.godebug = none := by kernel_rfl
theorem laidOut : laidOutB Try.prog = true := by kernel_rfl

set_option maxHeartbeats 4000000 in
set_option maxRecDepth 100000 in
theorem walk (a0 : Option Addr) (len0 cap0 : Nat) (w : World) (w0 : IsRows w a0 len0 cap0 5 [(0, .inl .i64), (1, .inl .i64), (2, .inl .i64), (3, .inl .i64), (4, .inl .i64)]) :
    Calls Try.prog 3 #[.slice a0 len0 cap0] w fun e w' => e = .returned (.bool true) ∧ Below w.heap.size w w' := by
  have HW := Lib.hid w0
  clear w0
  go_enter Try.func3, Try.ntmps3
  go_upto_block 0 with (first | (go_at_call 7; refine (newA w).mono ?_; rintro e wa ⟨rfl, Q0⟩))
  go_cut [4] (fun vl wx => PAt w w.heap.size 60 vl wx)
  case first =>
    go_wp2_with fail
    go_loopg [17, 4] len0 (fun gh vi vl wr => PlInv w w.heap.size len0 gh vi vl wr)
    case atStart => exact ⟨0, by omega, rfl, rfl, by omega, _, _, [], none, 0, 0, 0, Q0, ⟨rfl, rfl, .inl ⟨rfl, rfl⟩, Nat.le_refl _, fun _ => rfl, fun h => absurd rfl h⟩, by omega⟩
    case round =>
      clear Q0
      obtain ⟨k, hk, rfl, rfl, h60, PP⟩ := hrel
      by_cases hlt : k < len0
      · obtain ⟨bl, off, rfl, hel⟩ := act5_at HW.out (by omega)
        obtain ⟨t, x0, x1, x2, x3, e0, e1, e2, e3, e4, hbl⟩ := hel k hlt
        clear hel
        have Bl : Below w.heap.size w wr := by obtain ⟨_, _, _, _, _, _, _, h, _⟩ := PP; exact h.2.2.2
        have c0 := cell_low Bl hbl e0
        have c1 := cell_low Bl hbl e1
        have c2 := cell_low Bl hbl e2
        have c3 := cell_low Bl hbl e3
        have c4 := cell_low Bl hbl e4
        clear e0 e1 e2 e3 e4
        have ki0 : (0 : Int) ≤ (k : Int) := by omega
        have ki1 : (k : Int) < (len0 : Int) := by omega
        by_cases h6 : 60 ≤ k
        · obtain rfl : k = 60 := by omega
          have h60' : (60 : Int) ≤ ((60 : Nat) : Int) := by omega
          go_wp2_with fail
          go_meet
          case rel => exact PP.kept (new_alloc (new_refl wr) _)
        · have h60' : (k : Int) < 60 := by omega
          have BA := new_alloc (new_refl wr) (.cells #[.int .i64 t, .int .i64 x0, .int .i64 x1, .int .i64 x2, .int .i64 x3] 29)
          have X0 := Blk.new wr [.int .i64 t, .int .i64 x0, .int .i64 x1, .int .i64 x2, .int .i64 x3] 29
          go_upto_block 2 with (fail)
          obtain ⟨gH, p, L, A, N, c, gl, Q, ⟨rfl, hN, hl, hc, hA, hg⟩, hp⟩ := PP
          have hlt0 := Q.1.lt
          have hNb : N ≤ 1000000 := by have := Q.1.2.2.2; omega
          have hgE : L.map Wt.ev ≠ [] → gl ≠ w.heap.size ∧ gl ≠ gH := fun h => hg (ev_nil.1 h)
          replace Q := Q.kept BA
          replace hl := hl.kept BA
          generalize hW : wr.alloc (.cells #[.int .i64 t, .int .i64 x0, .int .i64 x1, .int .i64 x2, .int .i64 x3] 29) = W at Q hl X0 BA ⊢
          generalize heb : wr.heap.size = eb at X0 hlt0 ⊢
          have n1 : eb ≠ w.heap.size := by omega
          have n2 : eb ≠ gH := by omega
          clear hW c0 c1 c2 c3 c4 BA
          go_cut [17, 4] (fun vi vl wx => vi = .int .i64 (k : Int) ∧ PAt w w.heap.size ((k : Int) + 1) vl wx)
          case first =>
            have z0 := X0.cell 0 rfl
            have z1 := X0.cell 1 rfl
            have z2 := X0.cell 2 rfl
            have z3 := X0.cell 3 rfl
            have z4 := X0.cell 4 rfl
            have hgl : L.map Wt.ev ≠ [] → gl < W.heap.size := fun h => hl.lt h
            by_cases t1 : t = 1
            · subst t1
              cases L with
              | nil =>
                obtain rfl : 0 = N := hN
                have HX := Lib.hid hl
                have HQ := Lib.hid Q
                clear hl Q
                go_wp2_with (first
                  | (go_at_call 8; refine (popF HQ.out).mono ?_; rintro e w1 ⟨x, i, g1, rfl, ht, Q1, hg1, o1⟩; have l1 := lst_foot HX.out hgE o1)
                  | (go_at_call 9; refine (firstF ht (l1.kept (new_alloc (new_refl w1) _)) rfl).mono ?_; rintro e w2 ⟨rfl, B2⟩))
                go_meet
                case rel => exact ⟨rfl, g1, p, [], A, 0, c, gl, (Q1.kept (new_alloc (new_refl w1) _)).kept B2, ⟨rfl, rfl, (l1.kept (new_alloc (new_refl w1) _)).kept B2, hc, hA, fun h => absurd rfl h⟩, by omega⟩
              | cons y L =>
                obtain ⟨n, rfl⟩ : ∃ n, N = n + 1 := ⟨L.length, by rw [← hN]; simp⟩
                have hn : L.length = n := by simpa using hN
                rcases hl with ⟨_, h⟩ | ⟨off, rfl, hF⟩
                · cases h
                have HX : Hid (LstE W gl (some ⟨gl, off, none⟩) ((y :: L).map Wt.ev)) := Lib.hid (.inr ⟨off, rfl, hF⟩)
                have HT : Hid (LstE W gl (some ⟨gl, off + 4, none⟩) (L.map Wt.ev)) := Lib.hid (lst_tail4 hF)
                have HQ := Lib.hid Q
                have HN := Lib.hid hN
                have Hn := Lib.hid hn
                have q0 : (0 : Int) < (n : Int) + 1 := by omega
                have q1 : (1 : Int) ≤ (n : Int) + 1 := by omega
                have q2 : (n : Int) + 1 ≤ (c : Int) := by omega
                have q3 : (0 : Int) ≤ (n : Int) := by omega
                have hgy := hgE (by simp)
                have hgz := hgl (by simp)
                clear hF Q hN hn hgE hgl
                by_cases hc1 : c = 1
                · subst hc1
                  obtain rfl : n = 0 := by omega
                  obtain rfl : L = [] := List.eq_nil_of_length_eq_zero Hn.out
                  go_wp2_with (first
                    | (go_at_call 8; refine (popF HQ.out).mono ?_; rintro e w1 ⟨x, i, g1, rfl, ht, Q1, hg1, o1⟩; have l1 := lst_foot HX.out (fun _ => hgy) o1)
                    | (go_at_call 9; refine (firstF ht (l1.kept (new_alloc (new_refl w1) _)) HN.out).mono ?_; rintro e w2 ⟨rfl, B2⟩))
                  go_meet
                  case rel => exact ⟨rfl, popped_at (y := y) (wr := W) ((Q1.kept (new_alloc (new_refl w1) _)).kept B2) (lst_tail0 off) rfl (Nat.le_refl _) (by simp) hgy hgz hg1 (by omega)⟩
                · have q4 : ¬ c - 1 = 0 := by omega
                  have q5 : n ≤ c - 1 := by omega
                  go_wp2_with (first
                    | (go_at_call 8; refine (popF HQ.out).mono ?_; rintro e w1 ⟨x, i, g1, rfl, ht, Q1, hg1, o1⟩; have l1 := lst_foot HX.out (fun _ => hgy) o1; have l2 := lst_foot HT.out (fun _ => hgy) o1)
                    | (go_at_call 9; refine (firstF ht (l1.kept (new_alloc (new_refl w1) _)) HN.out).mono ?_; rintro e w2 ⟨rfl, B2⟩))
                  go_meet
                  case rel => exact ⟨rfl, popped_at (y := y) (wr := W) ((Q1.kept (new_alloc (new_refl w1) _)).kept B2) ((l2.kept (new_alloc (new_refl w1) _)).kept B2) Hn.out q5 (by simp) hgy hgz hg1 (by omega)⟩
            · by_cases t2 : t = 2
              · subst t2
                obtain ⟨M, hM⟩ : ∃ M, (L.filter (kp x2)).length = M := ⟨_, rfl⟩
                have hME : ((L.map Wt.ev).filter (kpE x2)).length = M := by rw [← kp_ev, List.length_map]; exact hM
                have hMN : M ≤ N := by rw [← hM, ← hN]; exact List.length_filter_le _ _
                have HX := Lib.hid hl
                have HQ := Lib.hid Q
                have HN := Lib.hid hN
                have HNE : Hid ((L.map Wt.ev).length = N) := Lib.hid (by rw [List.length_map]; exact hN)
                have HM := Lib.hid hM
                have HME := Lib.hid hME
                have q1 : (M : Int) ≤ (N : Int) := by omega
                have q2 : (N : Int) ≤ 1000000 := by omega
                have q3 : (0 : Int) ≤ (M : Int) := by omega
                clear hl Q hN hM hME
                go_wp2_with (first
                  | (go_at_call 10; refine (refDrop6_any gl c N M A x2 (L.map Wt.ev) _ HX.out HNE.out hNb HME.out).mono ?_; rintro e w1 ⟨g1, A1, c1, rfl, l1, hc1, hA1, hg1, B1⟩; have X1 := X0.kept B1; have y3 := X1.cell 3 rfl)
                  | (go_at_call 11; refine (dropF (HQ.out.kept B1) HN.out HM.out).mono ?_; rintro e w2 ⟨g2, rfl, Q2, hg2, o2⟩))
                go_meet
                case rel =>
                  have s1 := HQ.out.1.lt
                  have s2 := B1.size
                  have hne : (L.map Wt.ev).filter (kpE x2) ≠ [] → g1 ≠ w.heap.size ∧ g1 ≠ gH := fun h => by have := hg1 h; omega
                  have l2 := lst_foot l1 hne o2
                  rw [← kp_ev] at l2
                  refine ⟨rfl, g2, p, _, A1, M, c1, g1, Q2, ⟨rfl, HM.out, l2, hc1, hA1, fun h => ?_⟩, by omega⟩
                  have hq : (L.map Wt.ev).filter (kpE x2) ≠ [] := by rw [← kp_ev]; exact ev_nil.2 h
                  exact ⟨(hne hq).1, new_far hg2 (hne hq).2 (l1.lt hq)⟩
              · have HX := Lib.hid hl
                have HQ := Lib.hid Q
                have HN := Lib.hid hN
                have HNE : Hid ((L.map Wt.ev).length = N) := Lib.hid (by rw [List.length_map]; exact hN)
                have hp1 : p < 1000000 := by omega
                clear hl Q hN
                go_wp2_with (first
                  | (go_at_call 12; refine (pushA ⟨x0, x1, x2, x3⟩ HQ.out hp1).mono ?_; rintro e w1 ⟨g1, rfl, Q1, hg1, o1⟩; have l1 := lst_foot HX.out hgE o1; have X1 := X0.out o1 (not_footH n1 n2); have y1 := X1.cell 1 rfl; have y2 := X1.cell 2 rfl; have y3 := X1.cell 3 rfl; have y4 := X1.cell 4 rfl)
                  | (go_at_call 14; refine (event_any ⟨x0, x1, x2, x3⟩ _).mono ?_; rintro e w2 ⟨rfl, B2⟩)
                  | (go_at_call 13; refine (refPush6_any gl c N A ⟨x0, x1, x2, x3⟩ (L.map Wt.ev) _ (l1.kept B2) HNE.out hc hA hNb).mono ?_; rintro e w3 ⟨g3, c3, rfl, h31, h32, l3, hc3, B3⟩))
                go_meet
                case rel =>
                  have s1 := Q1.1.lt
                  have s2 := B2.size
                  refine ⟨rfl, g1, p + 1, ins L (Ev.wt ⟨x0, x1, x2, x3⟩ p), _, N + 1, c3, g3, (Q1.kept B2).kept B3, ⟨rfl, by rw [ins_len, HN.out], ?_, hc3, fun h => (by cases h), fun _ => ⟨by omega, by omega⟩⟩, by omega⟩
                  rw [ins_ev]
                  exact l3
          case rest =>
            clear X0 Q hl
            obtain ⟨rfl, gH, p, L, A, N, c, gl, Q, ⟨rfl, hN, hl, hc, hA, hg⟩, hp⟩ := hcut
            have HX := Lib.hid hl
            have HQ := Lib.hid Q
            have HN := Lib.hid hN
            clear hl Q hN
            go_wp2_with (first
              | (go_at_call 15; refine (peekF HQ.out).mono ?_; rintro e w1 ⟨x, i, rfl, ht, B1⟩)
              | (go_at_call 16; refine (lenH _ gH N L p _ ((HQ.out.kept B1).kept (new_alloc (new_refl w1) _)).1 HN.out).mono ?_; rintro e w2 ⟨rfl, rfl⟩)
              | (go_at_call 9; refine (firstF ht ((HX.out.kept B1).kept (new_alloc (new_refl w1) _)) HN.out).mono ?_; rintro e w3 ⟨rfl, B3⟩))
            go_roundg (len0 - (k + 1))
            case measure => omega
            case rel => exact ⟨k + 1, by omega, rfl, by go_num, by omega, gH, p, L, A, N, c, gl, ((HQ.out.kept B1).kept (new_alloc (new_refl w1) _)).kept B3, ⟨rfl, HN.out, ((HX.out.kept B1).kept (new_alloc (new_refl w1) _)).kept B3, hc, hA, hg⟩, by omega⟩
      · obtain rfl : k = len0 := by omega
        go_wp2_with fail
        go_meet
        case rel =>
          obtain ⟨gH, p, L, A, N, c, gl, Q, hV, hp⟩ := PP
          exact ⟨gH, p, L, A, N, c, gl, Q, hV, by omega⟩
  case rest =>
    obtain ⟨gH, p, L, A, N, c, gl, Q, hV, hp⟩ := hcut
    go_wp2_with fail
    go_loopg [4] N (fun gh vl wr => EndInv w w.heap.size gh vl wr)
    case atStart => exact ⟨gH, p, L, A, c, gl, Q, hV⟩
    case round =>
      clear Q hV hp
      obtain ⟨gH, p, L, A, c, gl, Q, rfl, hN, hl, hc, hA, hg⟩ := hrel
      cases L with
      | nil =>
        obtain rfl := hN
        have HQ := Lib.hid Q
        clear hl Q
        go_wp2_with (first
          | (go_at_call 16; refine (lenH _ gH 0 [] p _ HQ.out.1 rfl).mono ?_; rintro e w2 ⟨rfl, rfl⟩)
          | (go_at_call 17; refine (works06_any _).mono ?_; rintro e w3 ⟨rfl, B3⟩))
        go_ret
        exact ⟨rfl, new_then HQ.out.2.2.2 B3⟩
      | cons y L =>
        obtain ⟨n, hn⟩ : ∃ n, L.length = n := ⟨_, rfl⟩
        have HN : Hid ((y :: L).length = n + 1) := Lib.hid (by rw [List.length_cons, hn])
        rw [List.length_cons, hn] at hN
        subst hN
        rcases hl with ⟨_, h⟩ | ⟨off, rfl, hF⟩
        · cases h
        have HX : Hid (LstE wr gl (some ⟨gl, off, none⟩) ((y :: L).map Wt.ev)) := Lib.hid (.inr ⟨off, rfl, hF⟩)
        have HT : Hid (LstE wr gl (some ⟨gl, off + 4, none⟩) (L.map Wt.ev)) := Lib.hid (lst_tail4 hF)
        have HQ := Lib.hid Q
        have Hn := Lib.hid hn
        have q0 : (0 : Int) < (n : Int) + 1 := by omega
        have q1 : (1 : Int) ≤ (n : Int) + 1 := by omega
        have q2 : (n : Int) + 1 ≤ (c : Int) := by omega
        have q3 : (0 : Int) ≤ (n : Int) := by omega
        have hgy := hg (by simp)
        have hgz : gl < wr.heap.size := HX.out.lt (by simp)
        clear hF Q hn
        by_cases hc1 : c = 1
        · subst hc1
          obtain rfl : n = 0 := by omega
          obtain rfl : L = [] := List.eq_nil_of_length_eq_zero Hn.out
          go_wp2_with (first
            | (go_at_call 8; refine (popF HQ.out).mono ?_; rintro e w1 ⟨x, i, g1, rfl, ht, Q1, hg1, o1⟩; have l1 := lst_foot HX.out (fun _ => hgy) o1)
            | (go_at_call 9; refine (firstF ht (l1.kept (new_alloc (new_refl w1) _)) HN.out).mono ?_; rintro e w2 ⟨rfl, B2⟩))
          go_roundg 0
          case measure => omega
          case rel => exact ⟨g1, p, [], _, 0, gl, (Q1.kept (new_alloc (new_refl w1) _)).kept B2, rfl, rfl, lst_tail0 off, Nat.le_refl _, fun h => (by cases h), fun h => absurd rfl h⟩
        · have q4 : ¬ c - 1 = 0 := by omega
          have q5 : n ≤ c - 1 := by omega
          go_wp2_with (first
            | (go_at_call 8; refine (popF HQ.out).mono ?_; rintro e w1 ⟨x, i, g1, rfl, ht, Q1, hg1, o1⟩; have l1 := lst_foot HX.out (fun _ => hgy) o1; have l2 := lst_foot HT.out (fun _ => hgy) o1)
            | (go_at_call 9; refine (firstF ht (l1.kept (new_alloc (new_refl w1) _)) HN.out).mono ?_; rintro e w2 ⟨rfl, B2⟩))
          go_roundg n
          case measure => omega
          case rel => exact ⟨g1, p, L, _, c - 1, gl, (Q1.kept (new_alloc (new_refl w1) _)).kept B2, rfl, Hn.out, (l2.kept (new_alloc (new_refl w1) _)).kept B2, q5, fun h => (by cases h), fun _ => ⟨hgy.1, new_far hg1 hgy.2 hgz⟩⟩

set_option maxRecDepth 100000 in
theorem lifted (os : Os) (started : os.Started) (H : Type) (enc : TypeId × Value → H) :
    ReturnsInHanded {} Try.checked os 3 .any (Rows.heapPlaysSpec.pre6 enc Try.prog Try.f3 Rows.heapPlaysRow.domain false) (Rows.heapPlaysSpec.post enc Try.prog Try.f3 false true false false) := by
  refine returnsInHanded_of_change (C := Try.checked) own started (by kernel_rfl) Try.func3
    (ChangeSpec.witness6 (enc := enc) (C := Try.checked) false ⟨#[], #[.slice none 0 0], []⟩ 8 (by kernel_rfl) (by kernel_rfl) (by kernel_rfl) (by kernel_rfl)) ?_
  intro W base args ds gs before hval0 hW hcnd _
  have hval : ∀ (j : Nat) t v, Try.f3.params[j]? = some t → args[j]? = some v → Value.okWide Try.prog W .any base t v := hval0
  have hW' := hW
  obtain ⟨p, q, hA0, hV, rfl, hfz, hnd⟩ := hW
  have hA : DataW.TrodAll enc Try.prog W 0 (fun _ => true) true Try.f3.params.toList args.toList ds p := hA0
  rw [Try.params3] at hA hval
  obtain ⟨v0, vs0, d0, ds0, p0, q0, hargs, rfl, rfl, h0, r0⟩ := trodAll_cons hA
  obtain ⟨rfl, rfl, rfl⟩ := trodAll_nil r0
  obtain rfl : args = #[v0] := by cases args; simp_all
  obtain ⟨rfl, rfl⟩ := trodVars_none hV
  have k0 := h0
  have lt0 : ∀ x ∈ p0, x.block < W.heap.size := by obtain ⟨m, hm⟩ := k0; exact DataW.trod_lt m _ _ _ hm
  obtain ⟨a0, len0, cap0, rfl⟩ := okWide_slice Try.underlying22 (hval 0 22 v0 rfl rfl)
  have w0 := isRows_of (n := 5) (ls := [(0, .inl .i64), (1, .inl .i64), (2, .inl .i64), (3, .inl .i64), (4, .inl .i64)]) Try.underlying22 (by kernel_rfl) (by kernel_rfl) (by decide) h0
  clear hA0 hval0
  refine (walk a0 len0 cap0 W w0).mono fun e W' ⟨he, bel⟩ => ?_
  subst he
  exact ⟨_, rfl, _, _, _, [], _, [], hW', trodAll_mk1 (shut_bool Try.underlying4 _), (trodAll_cons_mk (Below.trod laidOut (by kernel_rfl) (of_decide_eq_true (by kernel_rfl)) k0 bel lt0) trodAll_mk0), rfl, bel.frame _, fun h => by cases h⟩

theorem over : Rows.heapPlaysRow.holds Try.pinned (OpenSpec.ofChange Rows.heapPlaysSpec) :=
  OpenClaim.holds_of_wide 3 Try.f3 rfl rfl rfl rfl rfl rfl rfl ⟨rfl, rfl, rfl, rfl, rfl⟩ rfl rfl rfl rfl rfl (by kernel_rfl) Try.func3 (by kernel_rfl)
    (of_decide_eq_true (by kernel_rfl)) (by unfold Func.isWrapper; first | (rw [if_pos (by decide +kernel)]; kernel_rfl) | (rw [if_neg (by decide +kernel)]; exact ⟨rfl, rfl⟩))
    (fun os started H enc _ => lifted os started H enc)
end heapPlays
theorem heapPlays_holds : Rows.HeapPlaysSaid := heapPlays.over
end Go.Proofs.Ytmdlbjeiokadaaa
