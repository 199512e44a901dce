/- The law's own look at options: not too many, and not too long (Few). -/
import Derived.Test.YtnkcnfkonifmhaaZOptI
import Derived.Test.YtnkcnfkonifmhaaZKitX
namespace Go.Proofs.Ytnkcnfkonifmhaa
open Go.ChangeShapes Go.WideShapes Go.ChangeAt Go.RowKit
set_option linter.unusedVariables false

/-- Options that came in. -/
def SrcO (w : World) (A : Option Addr) (len : Nat) : Prop :=
  len = 0 ∨ ∃ b off, A = some ⟨b, off, none⟩ ∧ ∀ i, i < len → ∃ (k : Int) (a : Option Addr) (m cap : Nat) (zs : List Int) (s : ByteArray),
    (w.cell? ⟨b, off + i * 3, none⟩ = some (.int .i64 k) ∧ w.cell? ⟨b, off + i * 3 + 1, none⟩ = some (.slice a m cap) ∧ w.cell? ⟨b, off + i * 3 + 2, none⟩ = some (.string s)) ∧ IsRow .u32 w a m cap zs ∧ s.size ≤ maxLen
theorem srcO_of {w : World} {a : Option Addr} {len cap : Nat} (h : IsRowsN w a len cap 3 [(0, .inl .i64), (1, .inr (.inr .u32)), (2, .inr (.inl true))]) : SrcO w a len := by
  rcases Nat.eq_zero_or_pos len with e | e
  · exact .inl e
  · obtain ⟨b, off, rfl, _, _, h⟩ := rowsN_at h e
    refine .inr ⟨b, off, rfl, fun i hi => ?_⟩
    obtain ⟨u0, c0, k, rfl, _⟩ := h i hi (0, .inl .i64) (by simp)
    obtain ⟨u1, c1, a, m, c, zs, rfl, hz⟩ := h i hi (1, .inr (.inr .u32)) (by simp)
    obtain ⟨u2, c2, s, rfl, hs⟩ := h i hi (2, .inr (.inl true)) (by simp)
    exact ⟨k, a, m, c, zs, s, ⟨by simpa using c0, by simpa [Nat.add_assoc] using c1, by simpa [Nat.add_assoc] using c2⟩, hz, hs⟩
theorem has_row {w : World} {a : Option Addr} {len cap m : Nat} {zs : List Int} (k : Int) (s : ByteArray) (h : IsRow .u32 w a len cap zs) (hm : m ≤ len) (hm2 : m ≤ 12) (hs : s.size ≤ 60) : HasO w ⟨⟨k, zs.take m, s⟩, a, m, cap⟩ :=
  ⟨row_take h m hm, row_ls h m hm, fun z hz => by have := bounds_u32 (row_wf h m z hz); omega, by show m ≤ 100; omega, by show s.size ≤ 100; omega, by have := row_low h; show m ≤ cap; omega⟩
def FewI (w0 w : World) (N gh : Nat) (vo vi : Value) (wr : World) : Prop :=
  ∃ (i : Nat) (xs : List OC), vi = .int .i64 (i : Int) ∧ N - i = gh ∧ i ≤ N ∧ xs.length = i ∧ OwnO wr w.heap.size vo xs ∧ (∀ x ∈ xs, HasO w0 x) ∧ Below w.heap.size w wr
/-- What Few leaves. -/
def FewTo (w : World) (N : Nat) (e : Ending) (w' : World) : Prop :=
  ∃ (A : Option Addr) (c : Nat) (xs : List OC), e = .returned (.slice A N c) ∧ OptsAt w' A N xs ∧ N ≤ c ∧ Below w.heap.size w w'
/-- .. and where: the options in a block of options, their numbers where they were. -/
def FewFar (w0 w : World) (N : Nat) (e : Ending) (w' : World) : Prop :=
  ∃ (A : Option Addr) (c : Nat) (xs : List OC), e = .returned (.slice A N c) ∧ OptsAt w' A N xs ∧ N ≤ c ∧ Below w.heap.size w w' ∧ (xs = [] ∨ ∃ g off, A = some ⟨g, off, none⟩ ∧ TyAt w' g 76) ∧ ∀ x ∈ xs, HasO w0 x
theorem FewFar.few {w0 w w' : World} {N : Nat} {e : Ending} (h : FewFar w0 w N e w') : FewTo w N e w' := by
  obtain ⟨A, c, xs, h1, h2, h3, h4, _⟩ := h
  exact ⟨A, c, xs, h1, h2, h3, h4⟩
theorem few_fin {w0 w wr : World} {vo : Value} {N : Nat} {xs : List OC} (B0 : Below w0.heap.size w0 w) (hl : xs.length = N) (hO : OwnO wr w.heap.size vo xs) (hx : ∀ x ∈ xs, HasO w0 x) (hB : Below w.heap.size w wr) : FewFar w0 w N (.returned vo) wr := by
  rcases hO.form with ⟨rfl, rfl⟩ | ⟨g, c, rfl⟩
  · simp at hl
    subst hl
    exact ⟨none, 0, [], rfl, opts_none _ _, Nat.le_refl _, hB, .inl rfl, hx⟩
  · have h2 := hO.len
    subst hl
    exact ⟨_, c, xs, rfl, own_opts hO (fun x h => (hx x h).kept (new_then B0 hB)), h2.2, hB, .inr ⟨g, 0, rfl, own_tyO hO rfl⟩, hx⟩
theorem all_new {w : World} {xs : List OC} {y : OC} (hx : ∀ x ∈ xs, HasO w x) (hy : HasO w y) : ∀ x ∈ xs ++ [y], HasO w x := by
  intro x h
  rcases List.mem_append.1 h with h | h
  · exact hx x h
  · rw [List.mem_singleton.1 h]; exact hy
set_option maxRecDepth 100000 in
set_option maxHeartbeats 4000000 in
theorem few_far (A : Option Addr) (len cap N : Nat) (w0 w : World) (B0 : Below w0.heap.size w0 w) (h : SrcO w0 A len) (hN : N = min len 12) (hlen : len ≤ maxLen) :
    Calls Try.prog 18 #[.slice A len cap] w (FewFar w0 w N) := by
  unfold maxLen at hlen
  have HW := Lib.hid h
  have HN := Lib.hid hN
  have hN1 : N ≤ 12 := by omega
  have hN2 : N ≤ len := by omega
  clear h hN
  go_enter Try.func18, Try.ntmps18
  go_wp2_with fail
  go_loopg [3, 4] N (fun gh vo vi wr => FewI w0 w N gh vo vi wr)
  case atStart => exact ⟨0, [], rfl, rfl, by omega, rfl, OwnE.nil _ _ _ _ _, fun x hx => (by cases hx), new_refl w⟩
  case round =>
    obtain ⟨i, xs, rfl, rfl, hi, hxl, hO, hx, hB⟩ := hrel
    have HO := Lib.hid hO
    have HX := Lib.hid hx
    have HL := Lib.hid hxl
    clear hO hx hxl
    by_cases hlt : i < N
    · have k0 : (0 : Int) ≤ (i : Int) := by omega
      have k1 : (i : Int) < (len : Int) := by omega
      have k2 : (i : Int) < 12 := by omega
      obtain ⟨b, off, rfl, hq⟩ : ∃ b off, A = some ⟨b, off, none⟩ ∧ ∃ (k : Int) (a : Option Addr) (m cap : Nat) (zs : List Int) (s : ByteArray), (w0.cell? ⟨b, off + i * 3, none⟩ = some (.int .i64 k) ∧ w0.cell? ⟨b, off + i * 3 + 1, none⟩ = some (.slice a m cap) ∧ w0.cell? ⟨b, off + i * 3 + 2, none⟩ = some (.string s)) ∧ IsRow .u32 w0 a m cap zs ∧ s.size ≤ maxLen := by
        rcases HW.out with h | ⟨b, off, e, h⟩
        · omega
        · exact ⟨b, off, e, h i (by omega)⟩
      obtain ⟨k, a, m, cm, zs, s, hc, hrow, hs⟩ := hq
      have hb : b < w.heap.size := Nat.lt_of_lt_of_le (World.block_lt_of_cell? w0 _ hc.1) B0.size
      obtain ⟨c0, c1, c2⟩ := three_kept (new_then B0 hB) hc
      have HR := Lib.hid hrow
      have hrl := row_low hrow
      unfold maxLen at hs hrl
      have f0 : some b ≠ u3.ownBlock := fun e => by have := (World.ownsRow.lt HO.out _ e.symm).1; omega
      have hs1 := hB.size
      have HN1 : Hid (xs.length + 1 = i + 1) := Lib.hid (by rw [HL.out])
      have hi1 : i + 1 ≤ 1000000000 := by omega
      clear hc hrow
      by_cases h12 : m ≤ 12
      · have n1 : (m : Int) ≤ 12 := by omega
        have n2 : (m : Int) ≤ (cm : Int) := by omega
        have n3 : (0 : Int) ≤ (m : Int) := by omega
        have n4 : (if (12 : Int) < (m : Int) then (12 : Int) else (m : Int)) = (m : Int) := if_neg (by omega)
        by_cases h60 : s.size ≤ 60
        · have s1 : (s.size : Int) ≤ 60 := by omega
          have s2 : (0 : Int) ≤ (s.size : Int) := by omega
          have s4 : (if (60 : Int) < (s.size : Int) then (60 : Int) else (s.size : Int)) = (s.size : Int) := if_neg (by omega)
          go_wp2_with fail
          go_region_held3 (fun w' => w'.cell? ⟨b, off + i * 3, none⟩ = some (.int .i64 k) ∧ w'.cell? ⟨b, off + i * 3 + 1, none⟩ = some (.slice a m cm) ∧ w'.cell? ⟨b, off + i * 3 + 2, none⟩ = some (.string s))
            (first | go_keep | assumption | exact three_grown G4 f0 (by assumption))
            (first
              | (refine step_pushE encO_is strO (o := ⟨some 49, _, _, _, _, _⟩) rfl _ _ rfl w.heap.size u3 xs ⟨⟨k, zs.take m, s⟩, a, m, cm⟩ _ 1 rfl rfl ?_ ?_ (i + 1) HN1.out hi1 ?_ _ rfl ?_
                 · exact At.new wr.drew (encO ⟨⟨k, zs.take m, s⟩, a, m, cm⟩) _
                 · exact OwnE.alloc (w := wr.drew) HO.out _
                 · exact alloc_le (W := wr.drew) hs1 _
                 intro g4 c4 w4 O4 G4 hat4 hlt4))
          all_goals
            clear c0 c1 c2
            go_wp2_with fail
            go_roundg (N - (i + 1))
            case measure => omega
            case rel => exact ⟨i + 1, _, by go_num, rfl, by omega, by rw [List.length_append, HL.out]; rfl, O4, all_new HX.out (has_row k s HR.out (by omega) (by omega) h60), (new_alloc (new_drew hB) _).trans (below_pushE (OwnE.alloc (w := wr.drew) HO.out _) G4 (alloc_le (W := wr.drew) hs1 _))⟩
        · have s1 : (60 : Int) < (s.size : Int) := by omega
          have s2 : (60 : Int) ≤ (s.size : Int) := by omega
          have s4 : (if (60 : Int) < (s.size : Int) then (60 : Int) else (s.size : Int)) = 60 := if_pos s1
          have hs6 : (s.extract 0 60).size ≤ 60 := by rw [ByteArray.size_extract]; omega
          go_wp2_with fail
          go_region_held3 (fun w' => w'.cell? ⟨b, off + i * 3, none⟩ = some (.int .i64 k) ∧ w'.cell? ⟨b, off + i * 3 + 1, none⟩ = some (.slice a m cm) ∧ w'.cell? ⟨b, off + i * 3 + 2, none⟩ = some (.string s))
            (first | go_keep | assumption | exact three_grown G4 f0 (by assumption))
            (first
              | (refine step_pushE encO_is strO (o := ⟨some 49, _, _, _, _, _⟩) rfl _ _ rfl w.heap.size u3 xs ⟨⟨k, zs.take m, (s.extract 0 60)⟩, a, m, cm⟩ _ 1 rfl rfl ?_ ?_ (i + 1) HN1.out hi1 ?_ _ rfl ?_
                 · exact At.new wr.drew (encO ⟨⟨k, zs.take m, (s.extract 0 60)⟩, a, m, cm⟩) _
                 · exact OwnE.alloc (w := wr.drew) HO.out _
                 · exact alloc_le (W := wr.drew) hs1 _
                 intro g4 c4 w4 O4 G4 hat4 hlt4))
          all_goals
            clear c0 c1 c2
            go_wp2_with fail
            go_roundg (N - (i + 1))
            case measure => omega
            case rel => exact ⟨i + 1, _, by go_num, rfl, by omega, by rw [List.length_append, HL.out]; rfl, O4, all_new HX.out (has_row k (s.extract 0 60) HR.out (by omega) (by omega) hs6), (new_alloc (new_drew hB) _).trans (below_pushE (OwnE.alloc (w := wr.drew) HO.out _) G4 (alloc_le (W := wr.drew) hs1 _))⟩
      · have n1 : (12 : Int) < (m : Int) := by omega
        have n2 : (12 : Int) ≤ (cm : Int) := by omega
        have n4 : (if (12 : Int) < (m : Int) then (12 : Int) else (m : Int)) = 12 := if_pos n1
        by_cases h60 : s.size ≤ 60
        · have s1 : (s.size : Int) ≤ 60 := by omega
          have s2 : (0 : Int) ≤ (s.size : Int) := by omega
          have s4 : (if (60 : Int) < (s.size : Int) then (60 : Int) else (s.size : Int)) = (s.size : Int) := if_neg (by omega)
          go_wp2_with fail
          go_region_held3 (fun w' => w'.cell? ⟨b, off + i * 3, none⟩ = some (.int .i64 k) ∧ w'.cell? ⟨b, off + i * 3 + 1, none⟩ = some (.slice a m cm) ∧ w'.cell? ⟨b, off + i * 3 + 2, none⟩ = some (.string s))
            (first | go_keep | assumption | exact three_grown G4 f0 (by assumption))
            (first
              | (refine step_pushE encO_is strO (o := ⟨some 49, _, _, _, _, _⟩) rfl _ _ rfl w.heap.size u3 xs ⟨⟨k, zs.take 12, s⟩, a, 12, cm⟩ _ 1 rfl rfl ?_ ?_ (i + 1) HN1.out hi1 ?_ _ rfl ?_
                 · exact At.new wr.drew (encO ⟨⟨k, zs.take 12, s⟩, a, 12, cm⟩) _
                 · exact OwnE.alloc (w := wr.drew) HO.out _
                 · exact alloc_le (W := wr.drew) hs1 _
                 intro g4 c4 w4 O4 G4 hat4 hlt4))
          all_goals
            clear c0 c1 c2
            go_wp2_with fail
            go_roundg (N - (i + 1))
            case measure => omega
            case rel => exact ⟨i + 1, _, by go_num, rfl, by omega, by rw [List.length_append, HL.out]; rfl, O4, all_new HX.out (has_row k s HR.out (by omega) (by omega) h60), (new_alloc (new_drew hB) _).trans (below_pushE (OwnE.alloc (w := wr.drew) HO.out _) G4 (alloc_le (W := wr.drew) hs1 _))⟩
        · have s1 : (60 : Int) < (s.size : Int) := by omega
          have s2 : (60 : Int) ≤ (s.size : Int) := by omega
          have s4 : (if (60 : Int) < (s.size : Int) then (60 : Int) else (s.size : Int)) = 60 := if_pos s1
          have hs6 : (s.extract 0 60).size ≤ 60 := by rw [ByteArray.size_extract]; omega
          go_wp2_with fail
          go_region_held3 (fun w' => w'.cell? ⟨b, off + i * 3, none⟩ = some (.int .i64 k) ∧ w'.cell? ⟨b, off + i * 3 + 1, none⟩ = some (.slice a m cm) ∧ w'.cell? ⟨b, off + i * 3 + 2, none⟩ = some (.string s))
            (first | go_keep | assumption | exact three_grown G4 f0 (by assumption))
            (first
              | (refine step_pushE encO_is strO (o := ⟨some 49, _, _, _, _, _⟩) rfl _ _ rfl w.heap.size u3 xs ⟨⟨k, zs.take 12, (s.extract 0 60)⟩, a, 12, cm⟩ _ 1 rfl rfl ?_ ?_ (i + 1) HN1.out hi1 ?_ _ rfl ?_
                 · exact At.new wr.drew (encO ⟨⟨k, zs.take 12, (s.extract 0 60)⟩, a, 12, cm⟩) _
                 · exact OwnE.alloc (w := wr.drew) HO.out _
                 · exact alloc_le (W := wr.drew) hs1 _
                 intro g4 c4 w4 O4 G4 hat4 hlt4))
          all_goals
            clear c0 c1 c2
            go_wp2_with fail
            go_roundg (N - (i + 1))
            case measure => omega
            case rel => exact ⟨i + 1, _, by go_num, rfl, by omega, by rw [List.length_append, HL.out]; rfl, O4, all_new HX.out (has_row k (s.extract 0 60) HR.out (by omega) (by omega) hs6), (new_alloc (new_drew hB) _).trans (below_pushE (OwnE.alloc (w := wr.drew) HO.out _) G4 (alloc_le (W := wr.drew) hs1 _))⟩
    · obtain rfl : i = N := by omega
      have F := Lib.hid (few_fin B0 HL.out HO.out HX.out hB)
      by_cases h12 : i < len
      · have k1 : (i : Int) < (len : Int) := by omega
        have k2 : ¬ (i : Int) < 12 := by have := HN.out; omega
        go_wp2_with fail
        go_ret
        exact F.out
      · have k1 : ¬ (i : Int) < (len : Int) := by omega
        go_wp2_with fail
        go_ret
        exact F.out
theorem few_any (A : Option Addr) (len cap N : Nat) (w : World) (h : SrcO w A len) (hN : N = min len 12) (hlen : len ≤ maxLen) :
    Calls Try.prog 18 #[.slice A len cap] w (FewTo w N) := (few_far A len cap N w w (new_refl w) h hN hlen).mono fun _ _ h => h.few
end Go.Proofs.Ytnkcnfkonifmhaa
