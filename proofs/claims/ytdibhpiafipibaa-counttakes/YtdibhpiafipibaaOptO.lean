/- Package option: Counters, place. The document's Counters. -/
import Derived.Test.YtdibhpiafipibaaOptN
namespace Go.Proofs.Ytdibhpiafipibaa
open Go.RowKit
set_option linter.unusedVariables false

/-- Which counter stands at a place, when the first i numbers are told. -/
def cO (k : Int) (zs : List Int) (i j : Nat) : Int := if k = 172 then (if j < i then bF zs j else -1) else if k = 174 then (if 2 - j < i then bF zs (2 - j) else -1) else -1
def plO (k : Int) (i : Nat) : Nat := if k = 174 then 2 - i else i
theorem pl_three {k : Int} {i : Nat} (h : i < 3) : plO k i < 3 := by unfold plO; split <;> omega
abbrev cellsC (k : Int) (zs : List Int) (i : Nat) : List Value := [.int .i64 (cO k zs i 0), .int .i64 (cO k zs i 1), .int .i64 (cO k zs i 2)]
theorem cells_at (k : Int) (zs : List Int) (i p : Nat) (h : p < 3) : (cellsC k zs i)[p]? = some (.int .i64 (cO k zs i p)) := by
  rcases (show p = 0 ∨ p = 1 ∨ p = 2 by omega) with rfl | rfl | rfl <;> rfl
theorem cells_zero (k : Int) (zs : List Int) : cellsC k zs 0 = [.int .i64 (-1), .int .i64 (-1), .int .i64 (-1)] := by simp [cellsC, cO]
theorem cells_set {k : Int} {zs : List Int} {i : Nat} (hk : k = 172 ∨ k = 174) (h : i < 3) : (cellsC k zs i).set (plO k i) (.int .i64 (bF zs i)) = cellsC k zs (i + 1) := by
  rcases (show i = 0 ∨ i = 1 ∨ i = 2 by omega) with rfl | rfl | rfl <;> rcases hk with rfl | rfl <;> simp [cellsC, cO, plO]
theorem cells_not {k : Int} (zs : List Int) (i : Nat) (h : k ≠ 172) (h' : k ≠ 174) : cellsC k zs i = [.int .i64 (-1), .int .i64 (-1), .int .i64 (-1)] := by simp [cellsC, cO, h, h']
theorem noU64 (a b c : Int) : ∀ v ∈ [Value.int .i64 a, .int .i64 b, .int .i64 c], ∀ z, v ≠ .int .u32 z := by
  intro v hv z
  simp at hv
  rcases hv with rfl | rfl | rfl <;> simp
theorem place12_any (k : Int) (i : Nat) (w : World) (h : i < 3) : Calls Try.prog 25 #[.int .i64 k, .int .i64 (i : Int)] w fun e w' => e = .returned (.int .i64 (plO k i : Int)) ∧ w = w' := by
  by_cases hk : k = 174
  · subst hk
    have e1 : Hid (2 - (i : Int) = ((plO 174 i : Nat) : Int)) := Lib.hid (by simp [plO]; omega)
    go_enter Try.func25, Try.ntmps25
    go_wp2_with fail
    go_ret
    exact ⟨ret_int e1.out, rfl⟩
  · have e1 : Hid (plO k i = i) := Lib.hid (by simp [plO, hk])
    have e2 : (k == 174) = false := by simp [hk]
    go_enter Try.func25, Try.ntmps25
    go_wp2_with fail
    go_ret
    exact ⟨by rw [e1.out]; rfl, rfl⟩

/-- What is kept while counters are told: the option, the answer's room, the counters. -/
structure CtrAt (w wr : World) (x : OC) (i : Nat) : Prop where
  opt : Blk wr w.heap.size [.int .i64 x.o.k, .slice x.a x.n x.c, .string x.o.s] 32
  res : Blk wr (w.heap.size + 1) [.int .i64 0, .int .i64 0, .int .i64 0] 36
  ctr : Blk wr (w.heap.size + 1 + 1) (cellsC x.o.k x.o.zs i) 36
  has : HasO wr x
  low : Below w.heap.size w wr
theorem ctr_set {w wr : World} {x : OC} {i : Nat} (h : CtrAt w wr x i) (hk : x.o.k = 172 ∨ x.o.k = 174) (hi : i < 3) : CtrAt w (wr.setCell ⟨w.heap.size + 1 + 1, plO x.o.k i, none⟩ (.int .i64 (bF x.o.zs i))) x (i + 1) :=
  ⟨h.opt.far (p := ⟨w.heap.size + 1 + 1, plO x.o.k i, none⟩) (by simp only; omega) _, h.res.far (p := ⟨w.heap.size + 1 + 1, plO x.o.k i, none⟩) (by simp only; omega) _, by rw [← cells_set hk hi]; exact h.ctr.set _ _, h.has.apart h.ctr (noU64 _ _ _) _ _, new_set h.low (p := ⟨w.heap.size + 1 + 1, plO x.o.k i, none⟩) (by simp only; omega) _⟩
theorem ctr_drew {w wr : World} {x : OC} {i : Nat} (h : CtrAt w wr x i) : CtrAt w wr.drew x i := ⟨h.opt, h.res, h.ctr, h.has.drew 1, new_drew h.low⟩
theorem ctr_same {w wr : World} {x : OC} {i : Nat} (h : CtrAt w wr x i) (h1 : x.o.k ≠ 172) (h2 : x.o.k ≠ 174) (j : Nat) : CtrAt w wr x j := ⟨h.opt, h.res, by rw [cells_not _ _ h1 h2]; have := h.ctr; rwa [cells_not _ _ h1 h2] at this, h.has, h.low⟩
def CtrI (w : World) (x : OC) (M gh : Nat) (vi : Value) (wr : World) : Prop := ∃ i : Nat, vi = .int .i64 (i : Int) ∧ M - i = gh ∧ i ≤ M ∧ CtrAt w wr x i
theorem ctr_start (x : OC) (w : World) (h : HasO w x) : CtrAt w (((w.alloc (.cells #[.int .i64 x.o.k, .slice x.a x.n x.c, .string x.o.s] 32)).alloc (.cells #[.int .i64 0, .int .i64 0, .int .i64 0] 36)).alloc (.cells #[.int .i64 (-1), .int .i64 (-1), .int .i64 (-1)] 36)) x 0 :=
  ⟨((Blk.new w [.int .i64 x.o.k, .slice x.a x.n x.c, .string x.o.s] _).alloc _).alloc _, (Blk.newAt (alloc_size w _) [.int .i64 0, .int .i64 0, .int .i64 0] _).alloc _, by rw [cells_zero]; exact Blk.newAt (by rw [alloc_size, alloc_size]) [.int .i64 (-1), .int .i64 (-1), .int .i64 (-1)] _, h.kept (new_alloc (new_alloc (new_alloc (new_refl w) _) _) _), new_alloc (new_alloc (new_alloc (new_refl w) _) _) _⟩
theorem num_apart {k : IntKind} {w : World} {g o p : Nat} {z : Int} {vs : List Value} {t : TypeId} (hb : Blk w p vs t) (hv : ∀ v ∈ vs, ∀ z, v ≠ .int k z) (h : w.cell? ⟨g, o, none⟩ = some (.int k z)) : g ≠ p := by
  rintro rfl
  rw [cell_of_row w _ _ _ t _ hb] at h
  have h2 : vs[o]? = some (.int k z) := by simpa using h
  exact hv _ (List.mem_of_getElem? h2) _ rfl
def CtrTo (w : World) (x : OC) (e : Ending) (w' : World) : Prop := e = .returned (.agg #[.int .i64 (cO x.o.k x.o.zs (min x.n 3) 0), .int .i64 (cO x.o.k x.o.zs (min x.n 3) 1), .int .i64 (cO x.o.k x.o.zs (min x.n 3) 2)]) ∧ Below w.heap.size w w'
set_option maxRecDepth 100000 in
set_option maxHeartbeats 1000000 in
theorem counters_acc (x : OC) (w : World) (hx : HasO w x) (hk : x.o.k = 172 ∨ x.o.k = 174) : Calls Try.prog 18 #[.agg #[.int .i64 x.o.k, .slice x.a x.n x.c, .string x.o.s]] w (CtrTo w x) := by
  have S := Lib.hid (ctr_start x w hx)
  have hf := hx.few
  clear hx
  obtain ⟨M, hM⟩ : ∃ M, min x.n 3 = M := ⟨_, rfl⟩
  have HM := Lib.hid hM
  have HK := Lib.hid hk
  have m3 : M ≤ 3 := by omega
  have mn : M ≤ x.n := by omega
  have ew : (if (3 : Int) < (x.n : Int) then (3 : Int) else (x.n : Int)) = (M : Int) := by split <;> omega
  clear hM
  rcases hk with hk | hk
  all_goals
    go_enter Try.func18, Try.ntmps18
    go_wp2_with fail
    go_loopg [19] M (fun gh vi wr => CtrI w x M gh vi wr)
    case atStart => exact ⟨0, rfl, rfl, by omega, by have h := S.out; rwa [hk] at h⟩
    case round =>
      clear S hk ew
      obtain ⟨i, rfl, rfl, hi, C⟩ := hrel
      have HC := Lib.hid C
      have c0 := C.opt.cell 0 rfl
      have c1 := C.opt.cell 1 rfl
      by_cases hlt : i < M
      · have k0 : (0 : Int) ≤ (i : Int) := by omega
        have k1 : (i : Int) < (M : Int) := by omega
        have k2 : (i : Int) < (x.n : Int) := by omega
        obtain ⟨g, off, ea, d0, z0, z1, _⟩ := C.has.num (i := i) (by omega)
        have hne := (num_apart C.ctr (noU64 _ _ _) d0).symm
        rw [ea] at c1
        obtain ⟨P, hP⟩ : ∃ P, plO x.o.k i = P := ⟨_, rfl⟩
        have CP : Hid (∀ w, Calls Try.prog 25 #[.int .i64 x.o.k, .int .i64 (i : Int)] w fun e w' => e = .returned (.int .i64 (P : Int)) ∧ w = w') := Lib.hid (fun w => by rw [← hP]; exact place12_any x.o.k i w (by omega))
        have p3 : P < 3 := by rw [← hP]; exact pl_three (by omega)
        have p4 : (P : Int) < 3 := by omega
        have p5 : (0 : Int) ≤ (P : Int) := by omega
        have q0 := C.ctr.cell P (cells_at _ _ _ P p3)
        have qf := C.ctr.frozen P
        have CN : Hid (CtrAt w (wr.drew.setCell ⟨w.heap.size + 1 + 1, P, none⟩ (.int .i64 (bF x.o.zs i))) x (i + 1)) := Lib.hid (by rw [← hP]; exact ctr_set (ctr_drew C) HK.out (by omega))
        clear C ea hP
        generalize bF x.o.zs i = z at *
        have ez : IntKind.i64.wrap z = z := by rw [IntKind.wrap_i64]; omega
        have hn0 : w.heap.size + 1 + 1 ≠ w.heap.size := by omega
        go_wp2_with fail
        go_region_held3 (fun w' => w'.cell? ⟨w.heap.size, 0, none⟩ = some (.int .i64 x.o.k) ∧ w'.cell? ⟨w.heap.size, 1, none⟩ = some (.slice (some ⟨g, off, none⟩) x.n x.c) ∧ w'.cell? ⟨g, off + i, none⟩ = some (.int .u32 z))
          (first | go_keep | assumption)
          (first
            | (go_at_call 25; refine (CP.out _).mono ?_; rintro e w3 ⟨rfl, rfl⟩))
        all_goals
          clear c0 c1 d0 q0 qf
          go_wp2_with fail
          go_roundg (M - (i + 1))
          case measure => omega
          case rel => exact ⟨i + 1, by go_num, rfl, by omega, CN.out⟩
      · obtain rfl : i = M := by omega
        have a0 := C.ctr.cell 0 rfl
        have a1 := C.ctr.cell 1 rfl
        have a2 := C.ctr.cell 2 rfl
        have r0 := C.res.cell 0 rfl
        have r1 := C.res.cell 1 rfl
        have r2 := C.res.cell 2 rfl
        have f0 := C.res.frozen 0
        have f1 := C.res.frozen 1
        have f2 := C.res.frozen 2
        have L := C.low
        clear C
        go_wp2_with fail
        exact bodyPost_ret (v := .agg #[.int .i64 (cO x.o.k x.o.zs i 0), .int .i64 (cO x.o.k x.o.zs i 1), .int .i64 (cO x.o.k x.o.zs i 2)]) (by simp [results, Try.results18, go_sem, r0, r1, r2]) rfl ⟨by rw [HM.out], new_set3 L (Nat.le_succ _) _ _ _⟩
theorem counters_not (x : OC) (w : World) (h1 : x.o.k ≠ 172) (h2 : x.o.k ≠ 174) : Calls Try.prog 18 #[.agg #[.int .i64 x.o.k, .slice x.a x.n x.c, .string x.o.s]] w (CtrTo w x) := by
  have HM := Lib.hid (cells_not x.o.zs (min x.n 3) h1 h2)
  have q1 : (x.o.k != 172) = true := by simp [h1]
  have q2 : (x.o.k != 174) = true := by simp [h2]
  go_enter Try.func18, Try.ntmps18
  go_wp2_with fail
  have h := HM.out
  simp only [cellsC, List.cons.injEq, Value.int.injEq, true_and, and_true] at h
  exact bodyPost_ret (v := .agg #[.int .i64 (-1), .int .i64 (-1), .int .i64 (-1)]) (by simp [results, Try.results18, go_sem]) rfl ⟨by rw [h.1, h.2.1, h.2.2], new_alloc (new_alloc (new_alloc (new_refl w) _) _) _⟩
theorem counters_any (x : OC) (w : World) (hx : HasO w x) : Calls Try.prog 18 #[.agg #[.int .i64 x.o.k, .slice x.a x.n x.c, .string x.o.s]] w (CtrTo w x) := by
  by_cases h1 : x.o.k = 172
  · exact counters_acc x w hx (.inl h1)
  · by_cases h2 : x.o.k = 174
    · exact counters_acc x w hx (.inr h2)
    · exact counters_not x w h1 h2
end Go.Proofs.Ytdibhpiafipibaa
