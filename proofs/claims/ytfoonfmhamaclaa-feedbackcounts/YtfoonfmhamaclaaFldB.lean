/- Package field: three counters. -/
import Derived.Test.YtfoonfmhamaclaaFldA
import Derived.OwnWalk
import Derived.Deep.RegionHeld3
import Derived.Deep.DeepCutAuto
import Derived.Deep.LoopGhost
import Derived.Deep.Light
import Derived.Deep.Onto
namespace Go.Proofs.Ytfoonfmhamaclaa
open Go.ChangeShapes Go.WideShapes Go.ChangeAt Go.RowKit
set_option linter.unusedVariables false

theorem lowF3 {w0 w : World} {p : Nat} (h : Below w0.heap.size w0 w) (hp : w0.heap.size ≤ p) (a b c : Value) :
    Below w0.heap.size w0 (((w.setCell ⟨p, 0, none⟩ a).setCell ⟨p, 1, none⟩ b).setCell ⟨p, 2, none⟩ c) :=
  new_set (new_set (new_set h (p := ⟨p, 0, none⟩) hp a) (p := ⟨p, 1, none⟩) hp b) (p := ⟨p, 2, none⟩) hp c
theorem cellF_far {w : World} {g h i j : Nat} {u v : Value} (hn : g ≠ h) (k : w.cell? ⟨g, i, none⟩ = some v) : (w.setCell ⟨h, j, none⟩ u).cell? ⟨g, i, none⟩ = some v :=
  (World.cell?_setCell_other w ⟨h, j, none⟩ ⟨g, i, none⟩ u (fun e => hn (by injection e with e1; exact e1.symm))).trans k
/-- The first k of three are followed. -/
def nsF (l0 l1 l2 n0 n1 n2 : Int) : Nat → List Value
  | 0 => [.int .i64 l0, .int .i64 l1, .int .i64 l2]
  | 1 => [.int .i64 n0, .int .i64 l1, .int .i64 l2]
  | 2 => [.int .i64 n0, .int .i64 n1, .int .i64 l2]
  | _ => [.int .i64 n0, .int .i64 n1, .int .i64 n2]
structure FolAt (w wr : World) (ls ns : List Value) : Prop where
  last : Blk wr w.heap.size ls 25
  res : Blk wr (w.heap.size + 1 + 1) [.int .i64 0, .int .i64 0, .int .i64 0] 25
  next : Blk wr (w.heap.size + 1 + 1 + 1) ns 25
  low : Below w.heap.size w wr
theorem fol_set {w wr w1 : World} {ls ns : List Value} (h : FolAt w wr ls ns) (B : Below wr.heap.size wr w1) (j : Nat) (v : Value) : FolAt w (w1.setCell ⟨w.heap.size + 1 + 1 + 1, j, none⟩ v) ls (ns.set j v) :=
  ⟨(h.last.kept B).far (p := ⟨w.heap.size + 1 + 1 + 1, j, none⟩) (show w.heap.size ≠ w.heap.size + 1 + 1 + 1 by omega) v, (h.res.kept B).far (p := ⟨w.heap.size + 1 + 1 + 1, j, none⟩) (show w.heap.size + 1 + 1 ≠ w.heap.size + 1 + 1 + 1 by omega) v, (h.next.kept B).set j v, new_set (new_then h.low B) (p := ⟨w.heap.size + 1 + 1 + 1, j, none⟩) (show w.heap.size ≤ w.heap.size + 1 + 1 + 1 by omega) v⟩
def FolI (w : World) (l0 l1 l2 n0 n1 n2 : Int) (gh : Nat) (v : Value) (wr : World) : Prop :=
  ∃ k : Nat, v = .int .i64 (k : Int) ∧ 3 - k = gh ∧ k ≤ 3 ∧ FolAt w wr [.int .i64 l0, .int .i64 l1, .int .i64 l2] (nsF l0 l1 l2 n0 n1 n2 k)
theorem fol_start (w : World) (l0 l1 l2 t0 t1 t2 : Int) : FolAt w ((((w.alloc (.cells #[.int .i64 l0, .int .i64 l1, .int .i64 l2] 25)).alloc (.cells #[.int .i64 t0, .int .i64 t1, .int .i64 t2] 25)).alloc (.cells #[.int .i64 0, .int .i64 0, .int .i64 0] 25)).alloc (.cells #[.int .i64 l0, .int .i64 l1, .int .i64 l2] 25)) [.int .i64 l0, .int .i64 l1, .int .i64 l2] [.int .i64 l0, .int .i64 l1, .int .i64 l2] :=
  ⟨(((Blk.new w [.int .i64 l0, .int .i64 l1, .int .i64 l2] _).alloc _).alloc _).alloc _, (Blk.newAt (by rw [alloc_size, alloc_size]) [.int .i64 0, .int .i64 0, .int .i64 0] _).alloc _, Blk.newAt (by rw [alloc_size, alloc_size, alloc_size]) [.int .i64 l0, .int .i64 l1, .int .i64 l2] _, new_alloc (new_alloc (new_alloc (new_alloc (new_refl w) _) _) _) _⟩
def FolTo (w : World) (n0 n1 n2 : Int) (e : Ending) (w' : World) : Prop := e = .returned (.agg #[.int .i64 n0, .int .i64 n1, .int .i64 n2]) ∧ Below w.heap.size w w'
set_option maxHeartbeats 1000000 in
theorem follow17_any (l0 l1 l2 t0 t1 t2 : Int) (w : World) (h0 : int64F l0) (h1 : int64F l1) (h2 : int64F l2) :
    Calls Try.prog 21 #[.agg #[.int .i64 l0, .int .i64 l1, .int .i64 l2], .agg #[.int .i64 t0, .int .i64 t1, .int .i64 t2]] w (FolTo w (foF l0 t0) (foF l1 t1) (foF l2 t2)) := by
  have S := Lib.hid (fol_start w l0 l1 l2 t0 t1 t2)
  have b0 := stF_bd l0 t0
  have R0 : Hid (∀ w, Calls Try.prog 37 #[.int .i64 l0, .int .i64 (stF l0 t0)] w fun e w' => e = .returned (.int .i64 (foF l0 t0)) ∧ w = w') := Lib.hid (fun w => raise17_any l0 (stF l0 t0) w h0 b0)
  have P0 := Lib.hid (fun w => step17_any l0 t0 w)
  have b1 := stF_bd l1 t1
  have R1 : Hid (∀ w, Calls Try.prog 37 #[.int .i64 l1, .int .i64 (stF l1 t1)] w fun e w' => e = .returned (.int .i64 (foF l1 t1)) ∧ w = w') := Lib.hid (fun w => raise17_any l1 (stF l1 t1) w h1 b1)
  have P1 := Lib.hid (fun w => step17_any l1 t1 w)
  have b2 := stF_bd l2 t2
  have R2 : Hid (∀ w, Calls Try.prog 37 #[.int .i64 l2, .int .i64 (stF l2 t2)] w fun e w' => e = .returned (.int .i64 (foF l2 t2)) ∧ w = w') := Lib.hid (fun w => raise17_any l2 (stF l2 t2) w h2 b2)
  have P2 := Lib.hid (fun w => step17_any l2 t2 w)
  clear b0 b1 b2 h0 h1 h2
  generalize foF l0 t0 = n0 at *
  generalize stF l0 t0 = s0 at *
  generalize foF l1 t1 = n1 at *
  generalize stF l1 t1 = s1 at *
  generalize foF l2 t2 = n2 at *
  generalize stF l2 t2 = s2 at *
  unfold FolTo
  go_enter Try.func21, Try.ntmps21
  go_wp2_with fail
  go_loopg [10] 3 (fun gh v wr => FolI w l0 l1 l2 n0 n1 n2 gh v wr)
  case atStart => exact ⟨0, rfl, rfl, by omega, S.out⟩
  case round =>
    clear S
    obtain ⟨k, rfl, rfl, hk, C⟩ := hrel
    have HC := Lib.hid C
    have c0 := C.last.cell 0 rfl
    have c1 := C.last.cell 1 rfl
    have c2 := C.last.cell 2 rfl
    clear C
    have x0 := idxF0 t0 t1 t2
    have x1 := idxF1 t0 t1 t2
    have x2 := idxF2 t0 t1 t2
    have hne : w.heap.size ≠ w.heap.size + 1 + 1 + 1 := by omega
    obtain rfl | rfl | rfl | rfl : k = 0 ∨ k = 1 ∨ k = 2 ∨ k = 3 := by omega
    · go_upto_region 5 with (fail)
      go_region_held3 (fun w' => w'.cell? ⟨w.heap.size, 0, none⟩ = some (.int .i64 l0))
        (first | exact cell_kept B16 (by assumption) | exact cellF_far hne (by assumption) | go_keep | assumption)
        (first
          | (go_at_call 38; refine (P0.out _).mono ?_; rintro e w1 ⟨rfl, B16⟩; replace B16 := new_undrew B16
             have K := HC.out.next.kept B16
             have d0 := K.cell 0 rfl
             have e0 := K.frozen 0)
          | (go_at_call 37; refine (R0.out _).mono ?_; rintro e w2 ⟨rfl, rfl⟩))
      all_goals
        have D := fol_set HC.out B16 0 (.int .i64 n0)
        go_wp2_with fail
        go_roundg (3 - (0 + 1))
        case measure => omega
        case rel => exact ⟨0 + 1, by go_num, rfl, by omega, D⟩
    · go_upto_region 5 with (fail)
      go_region_held3 (fun w' => w'.cell? ⟨w.heap.size, 1, none⟩ = some (.int .i64 l1))
        (first | exact cell_kept B16 (by assumption) | exact cellF_far hne (by assumption) | go_keep | assumption)
        (first
          | (go_at_call 38; refine (P1.out _).mono ?_; rintro e w1 ⟨rfl, B16⟩; replace B16 := new_undrew B16
             have K := HC.out.next.kept B16
             have d0 := K.cell 1 rfl
             have e0 := K.frozen 1)
          | (go_at_call 37; refine (R1.out _).mono ?_; rintro e w2 ⟨rfl, rfl⟩))
      all_goals
        have D := fol_set HC.out B16 1 (.int .i64 n1)
        go_wp2_with fail
        go_roundg (3 - (1 + 1))
        case measure => omega
        case rel => exact ⟨1 + 1, by go_num, rfl, by omega, D⟩
    · go_upto_region 5 with (fail)
      go_region_held3 (fun w' => w'.cell? ⟨w.heap.size, 2, none⟩ = some (.int .i64 l2))
        (first | exact cell_kept B16 (by assumption) | exact cellF_far hne (by assumption) | go_keep | assumption)
        (first
          | (go_at_call 38; refine (P2.out _).mono ?_; rintro e w1 ⟨rfl, B16⟩; replace B16 := new_undrew B16
             have K := HC.out.next.kept B16
             have d0 := K.cell 2 rfl
             have e0 := K.frozen 2)
          | (go_at_call 37; refine (R2.out _).mono ?_; rintro e w2 ⟨rfl, rfl⟩))
      all_goals
        have D := fol_set HC.out B16 2 (.int .i64 n2)
        go_wp2_with fail
        go_roundg (3 - (2 + 1))
        case measure => omega
        case rel => exact ⟨2 + 1, by go_num, rfl, by omega, D⟩
    · have r0 := HC.out.res.cell 0 rfl
      have r1 := HC.out.res.cell 1 rfl
      have r2 := HC.out.res.cell 2 rfl
      have d0 := HC.out.next.cell 0 rfl
      have d1 := HC.out.next.cell 1 rfl
      have d2 := HC.out.next.cell 2 rfl
      have f0 := HC.out.res.frozen 0
      have f1 := HC.out.res.frozen 1
      have f2 := HC.out.res.frozen 2
      go_wp2_with fail
      exact bodyPost_ret (v := .agg #[.int .i64 n0, .int .i64 n1, .int .i64 n2]) (by simp [results, Try.results21, go_sem, r0, r1, r2]) rfl ⟨rfl, lowF3 HC.out.low (by omega) _ _ _⟩

/-- Of the first k of three none is behind. -/
def frP (f0 f1 f2 : Bool) : Nat → Bool
  | 0 => true
  | 1 => f0
  | 2 => f0 && f1
  | _ => f0 && f1 && f2
structure FreAt (w wr : World) (ls : List Value) : Prop where
  last : Blk wr w.heap.size ls 25
  low : Below w.heap.size w wr
theorem FreAt.then {w wr w1 : World} {ls : List Value} (h : FreAt w wr ls) (B : Below wr.heap.size wr w1) : FreAt w w1 ls := ⟨h.last.kept B, new_then h.low B⟩
def FreI (w : World) (l0 l1 l2 : Int) (f0 f1 f2 : Bool) (gh : Nat) (v : Value) (wr : World) : Prop :=
  ∃ k : Nat, v = .int .i64 (k : Int) ∧ 3 - k = gh ∧ k ≤ 3 ∧ frP f0 f1 f2 k = true ∧ FreAt w wr [.int .i64 l0, .int .i64 l1, .int .i64 l2]
theorem fr_way (l t : Int) : (t < 0 ∧ frF l t = true) ∨ (0 ≤ t ∧ fdF l t < 0 ∧ frF l t = false) ∨ (0 ≤ t ∧ 0 ≤ fdF l t ∧ frF l t = true) := by
  unfold frF toF
  by_cases h : t < 0
  · exact .inl ⟨h, by rw [if_pos h]; rfl⟩
  · by_cases h2 : fdF l t < 0
    · exact .inr (.inl ⟨by omega, h2, by rw [if_neg h]; simp; omega⟩)
    · exact .inr (.inr ⟨by omega, by omega, by rw [if_neg h]; simp; omega⟩)
theorem fre_start (w : World) (l0 l1 l2 t0 t1 t2 : Int) : FreAt w ((w.alloc (.cells #[.int .i64 l0, .int .i64 l1, .int .i64 l2] 25)).alloc (.cells #[.int .i64 t0, .int .i64 t1, .int .i64 t2] 25)) [.int .i64 l0, .int .i64 l1, .int .i64 l2] :=
  ⟨(Blk.new w [.int .i64 l0, .int .i64 l1, .int .i64 l2] _).alloc _, new_alloc (new_alloc (new_refl w) _) _⟩
set_option maxHeartbeats 1000000 in
theorem fresh17_any (l0 l1 l2 t0 t1 t2 : Int) (w : World) :
    Calls Try.prog 18 #[.agg #[.int .i64 l0, .int .i64 l1, .int .i64 l2], .agg #[.int .i64 t0, .int .i64 t1, .int .i64 t2]] w fun e w' => e = .returned (.bool (frF l0 t0 && frF l1 t1 && frF l2 t2)) ∧ Below w.heap.size w w' := by
  have S := Lib.hid (fre_start w l0 l1 l2 t0 t1 t2)
  have W0 := Lib.hid (fr_way l0 t0)
  have P0 := Lib.hid (fun w => ahead17_any l0 t0 w)
  generalize fdF l0 t0 = s0 at W0 P0
  generalize frF l0 t0 = f0 at *
  have W1 := Lib.hid (fr_way l1 t1)
  have P1 := Lib.hid (fun w => ahead17_any l1 t1 w)
  generalize fdF l1 t1 = s1 at W1 P1
  generalize frF l1 t1 = f1 at *
  have W2 := Lib.hid (fr_way l2 t2)
  have P2 := Lib.hid (fun w => ahead17_any l2 t2 w)
  generalize fdF l2 t2 = s2 at W2 P2
  generalize frF l2 t2 = f2 at *
  have HR : Hid (frP f0 f1 f2 3 = (f0 && f1 && f2)) := Lib.hid rfl
  rw [← HR.out]
  go_enter Try.func18, Try.ntmps18
  go_wp2_with fail
  go_loopg [8] 3 (fun gh v wr => FreI w l0 l1 l2 f0 f1 f2 gh v wr)
  case atStart => exact ⟨0, rfl, rfl, by omega, rfl, S.out⟩
  case round =>
    clear S
    obtain ⟨k, rfl, rfl, hk, hf, C⟩ := hrel
    have HF := Lib.hid hf
    have HC := Lib.hid C
    have c0 := C.last.cell 0 rfl
    have c1 := C.last.cell 1 rfl
    have c2 := C.last.cell 2 rfl
    clear C hf
    have x0 := idxF0 t0 t1 t2
    have x1 := idxF1 t0 t1 t2
    have x2 := idxF2 t0 t1 t2
    obtain rfl | rfl | rfl | rfl : k = 0 ∨ k = 1 ∨ k = 2 ∨ k = 3 := by omega
    · rcases W0.out with ⟨q1, q2⟩ | ⟨q1, q2, q3⟩ | ⟨q1, q2, q3⟩
      · have HQ := Lib.hid q2
        have hd : decide (0 ≤ t0) = false := by simp; omega
        clear q1 q2
        go_wp2_with (first
          | (go_at_call 31; refine (told17_any _ _).mono ?_; rintro e w1 ⟨rfl, rfl⟩)
          | (go_at_call 32; refine (P0.out _).mono ?_; rintro e w2 ⟨rfl, B⟩))
        go_roundg (3 - (0 + 1))
        case measure => omega
        case rel => exact ⟨0 + 1, by go_num, rfl, by omega, by have a := HF.out; have b := HQ.out; simp_all [frP], HC.out⟩
      · have HQ := Lib.hid q3
        clear q3
        go_wp2_with (first
          | (go_at_call 31; refine (told17_any _ _).mono ?_; rintro e w1 ⟨rfl, rfl⟩)
          | (go_at_call 32; refine (P0.out _).mono ?_; rintro e w2 ⟨rfl, B⟩))
        go_ret
        exact ⟨ret_bool (by have b := HQ.out; simp [frP, b]), new_then HC.out.low B⟩
      · have HQ := Lib.hid q3
        clear q3
        go_wp2_with (first
          | (go_at_call 31; refine (told17_any _ _).mono ?_; rintro e w1 ⟨rfl, rfl⟩)
          | (go_at_call 32; refine (P0.out _).mono ?_; rintro e w2 ⟨rfl, B⟩))
        go_roundg (3 - (0 + 1))
        case measure => omega
        case rel => exact ⟨0 + 1, by go_num, rfl, by omega, by have a := HF.out; have b := HQ.out; simp_all [frP], HC.out.then B⟩
    · rcases W1.out with ⟨q1, q2⟩ | ⟨q1, q2, q3⟩ | ⟨q1, q2, q3⟩
      · have HQ := Lib.hid q2
        have hd : decide (0 ≤ t1) = false := by simp; omega
        clear q1 q2
        go_wp2_with (first
          | (go_at_call 31; refine (told17_any _ _).mono ?_; rintro e w1 ⟨rfl, rfl⟩)
          | (go_at_call 32; refine (P1.out _).mono ?_; rintro e w2 ⟨rfl, B⟩))
        go_roundg (3 - (1 + 1))
        case measure => omega
        case rel => exact ⟨1 + 1, by go_num, rfl, by omega, by have a := HF.out; have b := HQ.out; simp_all [frP], HC.out⟩
      · have HQ := Lib.hid q3
        clear q3
        go_wp2_with (first
          | (go_at_call 31; refine (told17_any _ _).mono ?_; rintro e w1 ⟨rfl, rfl⟩)
          | (go_at_call 32; refine (P1.out _).mono ?_; rintro e w2 ⟨rfl, B⟩))
        go_ret
        exact ⟨ret_bool (by have b := HQ.out; simp [frP, b]), new_then HC.out.low B⟩
      · have HQ := Lib.hid q3
        clear q3
        go_wp2_with (first
          | (go_at_call 31; refine (told17_any _ _).mono ?_; rintro e w1 ⟨rfl, rfl⟩)
          | (go_at_call 32; refine (P1.out _).mono ?_; rintro e w2 ⟨rfl, B⟩))
        go_roundg (3 - (1 + 1))
        case measure => omega
        case rel => exact ⟨1 + 1, by go_num, rfl, by omega, by have a := HF.out; have b := HQ.out; simp_all [frP], HC.out.then B⟩
    · rcases W2.out with ⟨q1, q2⟩ | ⟨q1, q2, q3⟩ | ⟨q1, q2, q3⟩
      · have HQ := Lib.hid q2
        have hd : decide (0 ≤ t2) = false := by simp; omega
        clear q1 q2
        go_wp2_with (first
          | (go_at_call 31; refine (told17_any _ _).mono ?_; rintro e w1 ⟨rfl, rfl⟩)
          | (go_at_call 32; refine (P2.out _).mono ?_; rintro e w2 ⟨rfl, B⟩))
        go_roundg (3 - (2 + 1))
        case measure => omega
        case rel => exact ⟨2 + 1, by go_num, rfl, by omega, by have a := HF.out; have b := HQ.out; simp_all [frP], HC.out⟩
      · have HQ := Lib.hid q3
        clear q3
        go_wp2_with (first
          | (go_at_call 31; refine (told17_any _ _).mono ?_; rintro e w1 ⟨rfl, rfl⟩)
          | (go_at_call 32; refine (P2.out _).mono ?_; rintro e w2 ⟨rfl, B⟩))
        go_ret
        exact ⟨ret_bool (by have b := HQ.out; simp [frP, b]), new_then HC.out.low B⟩
      · have HQ := Lib.hid q3
        clear q3
        go_wp2_with (first
          | (go_at_call 31; refine (told17_any _ _).mono ?_; rintro e w1 ⟨rfl, rfl⟩)
          | (go_at_call 32; refine (P2.out _).mono ?_; rintro e w2 ⟨rfl, B⟩))
        go_roundg (3 - (2 + 1))
        case measure => omega
        case rel => exact ⟨2 + 1, by go_num, rfl, by omega, by have a := HF.out; have b := HQ.out; simp_all [frP], HC.out.then B⟩
    · go_wp2_with fail
      go_ret
      exact ⟨ret_bool HF.out.symm, HC.out.low⟩
end Go.Proofs.Ytfoonfmhamaclaa
