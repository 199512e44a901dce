/- Package rtt: ends are kept by a closure; an estimate within its ends, its parts. -/
import Derived.Test.YtlfckllbpkehlaaRttM
import Derived.Test.YtlfckllbpkehlaaMem
import Derived.Laws.StructEq
import Derived.StillTailTactics
import Derived.OwnWalk
import Derived.Deep.RegionHeld3
import Derived.Deep.RegionWith
import Derived.Deep.DeepCutAuto
import Derived.Deep.LoopGhost
import Derived.Deep.Light
import Derived.Deep.Onto
namespace Go.Proofs.Ytlfckllbpkehlaa
open Go.ChangeShapes Go.WideShapes Go.ChangeAt Go.RowKit
set_option linter.unusedVariables false

/-- A quotient by a number above 0. -/
theorem divB_any (a b : Int) (w : World) (ha : -9223372036854775808 ≤ a ∧ a ≤ 9223372036854775807) (hb : 0 < b ∧ b ≤ 9223372036854775807) :
    Calls Try.prog 22 #[.int .i64 a, .int .i64 b] w fun e w' => e = .returned (.int .i64 (a / b)) ∧ Below w.heap.size w w' := by
  have e : fdv a b = a / b := by
    obtain ⟨h, h1, h2⟩ := fdv_fmd a b ha hb.1
    exact ((Int.ediv_emod_unique hb.1).2 ⟨by rw [Int.mul_comm]; omega, h1, h2⟩).1.symm
  rw [← e]
  exact (satDiv_any a b w ha (by omega)).mono fun _ _ ⟨h, n, hn⟩ => ⟨h, by rw [hn]; exact new_draw (new_refl w) n⟩
abbrev rtV (c : Rtx) : List Value := [.int .i64 c.a, .int .i64 c.v, .bool c.s]
abbrev rtG (c : Rtx) : Value := .agg #[.int .i64 c.a, .int .i64 c.v, .bool c.s]
def RtIs (w : World) (c : Rtx) (e : Ending) (w' : World) : Prop := e = .returned (rtG c) ∧ Below w.heap.size w w'

/-- The closure: its captured cells hold both ends. -/
theorem ends1_any (x lo hi : Int) (p q : Nat) (w : World) (hp : w.cell? ⟨p, 0, none⟩ = some (.int .i64 lo)) (hq : w.cell? ⟨q, 0, none⟩ = some (.int .i64 hi)) :
    Calls Try.prog 25 #[.int .i64 x, .pointer (some ⟨p, 0, none⟩), .pointer (some ⟨q, 0, none⟩)] w fun e w' => e = .returned (.int .i64 (clampI x lo hi)) ∧ w = w' := by
  go_enter Try.func25, Try.ntmps25
  go_wp2_with (go_at_call 26; refine (satClamp_any _ _ _ _).mono ?_; rintro e w' ⟨rfl, rfl⟩)
  go_ret
  exact ⟨rfl, rfl⟩
def IsEnds (lo hi : Int) (w : World) (e : Ending) (w' : World) : Prop :=
  ∃ p q, e = .returned (.func (.func 25) #[] #[.pointer (some ⟨p, 0, none⟩), .pointer (some ⟨q, 0, none⟩)]) ∧ w'.cell? ⟨p, 0, none⟩ = some (.int .i64 lo) ∧ w'.cell? ⟨q, 0, none⟩ = some (.int .i64 hi) ∧ Below w.heap.size w w' ∧ w.heap.size ≤ p ∧ w.heap.size ≤ q
theorem ends_any (lo hi : Int) (w : World) : Calls Try.prog 16 #[.int .i64 lo, .int .i64 hi] w (IsEnds lo hi w) := by
  go_enter Try.func16, Try.ntmps16
  go_wp2_with fail
  go_ret
  exact ⟨_, _, rfl, ((At.new w [.int .i64 lo] _).alloc _).cell 0 rfl, (At.newAt (by simp) [.int .i64 hi] _).cell 0 rfl, new_alloc (new_alloc (new_refl w) _) _, Nat.le_refl _, Nat.le_succ _⟩

theorem rt_set {w : World} {g : Nat} {c : Rtx} (h : Blk w g (rtV c) 23) (d : Rtx) :
    Blk (((w.setCell ⟨g, 0, none⟩ (.int .i64 d.a)).setCell ⟨g, 1, none⟩ (.int .i64 d.v)).setCell ⟨g, 2, none⟩ (.bool d.s)) g (rtV d) 23 :=
  ((h.set 0 (.int .i64 d.a)).set 1 (.int .i64 d.v)).set 2 (.bool d.s)
theorem far3 {w : World} {g p : Nat} {vs : List Value} {t : TypeId} (h : Blk w g vs t) (hp : g ≠ p) (a b c : Value) :
    Blk (((w.setCell ⟨p, 0, none⟩ a).setCell ⟨p, 1, none⟩ b).setCell ⟨p, 2, none⟩ c) g vs t :=
  ((h.far (p := ⟨p, 0, none⟩) hp a).far (p := ⟨p, 1, none⟩) hp b).far (p := ⟨p, 2, none⟩) hp c
theorem lowR3 {w0 w : World} {p : Nat} (h : Below w0.heap.size w0 w) (hp : w0.heap.size ≤ p) (a b c : Value) :
    Below w0.heap.size w0 (((w.setCell ⟨p, 0, none⟩ a).setCell ⟨p, 1, none⟩ b).setCell ⟨p, 2, none⟩ c) :=
  new_set (new_set (new_set h (p := ⟨p, 0, none⟩) hp a) (p := ⟨p, 1, none⟩) hp b) (p := ⟨p, 2, none⟩) hp c

set_option maxHeartbeats 1000000 in
theorem kept20_any (c : Rtx) (w : World) :
    Calls Try.prog 18 #[rtG c] w (RtIs w ⟨rtIn c.a, rtIn c.v, c.s⟩) := by
  unfold RtIs rtG
  have EA : rtIn c.a = clampI c.a 0 9007199254741000 := rfl
  have EV : rtIn c.v = clampI c.v 0 9007199254741000 := rfl
  generalize rtIn c.a = A at *
  generalize rtIn c.v = V at *
  have HA := Lib.hid EA
  have HV := Lib.hid EV
  clear EA EV
  have B0 : Hid (Blk ((w.alloc (.cells #[.int .i64 c.a, .int .i64 c.v, .bool c.s] 23)).alloc (.cells #[.int .i64 0, .int .i64 0, .bool false] 23)) w.heap.size (rtV c) 23) := Lib.hid ((Blk.new w (rtV c) _).alloc _)
  have B1 : Hid (Blk ((w.alloc (.cells #[.int .i64 c.a, .int .i64 c.v, .bool c.s] 23)).alloc (.cells #[.int .i64 0, .int .i64 0, .bool false] 23)) (w.heap.size + 1) [.int .i64 0, .int .i64 0, .bool false] 23) := Lib.hid (Blk.newAt (alloc_size w _) [.int .i64 0, .int .i64 0, .bool false] _)
  go_enter Try.func18, Try.ntmps18
  go_upto_region 2 with (go_at_call 16; refine (ends_any _ _ _).mono ?_; rintro e w1 ⟨p, q, rfl, hp, hq, B, lp, lq⟩)
  have K0 := B0.out.kept B
  have K1 := Lib.hid (B1.out.kept B)
  have L := Lib.hid (new_then (new_alloc (new_alloc (new_refl w) (.cells #[.int .i64 c.a, .int .i64 c.v, .bool c.s] 23)) (.cells #[.int .i64 0, .int .i64 0, .bool false] 23)) B)
  have HK0 := Lib.hid K0
  have c0 := K0.cell 0 rfl
  have c1 := K0.cell 1 rfl
  have c2 := K0.cell 2 rfl
  have f0 := K0.frozen 0
  have f1 := K0.frozen 1
  have f2 := K0.frozen 2
  simp at lp lq
  have np : p ≠ w.heap.size := by omega
  have nq : q ≠ w.heap.size := by omega
  clear K0 B B0 B1 lp lq
  have D := Lib.hid ((HK0.out.set 0 (.int .i64 A)).set 1 (.int .i64 V))
  have E := Lib.hid ((K1.out.far (p := ⟨w.heap.size, 0, none⟩) (show w.heap.size + 1 ≠ w.heap.size by omega) (.int .i64 A)).far (p := ⟨w.heap.size, 1, none⟩) (show w.heap.size + 1 ≠ w.heap.size by omega) (.int .i64 V))
  clear HK0 K1
  go_region_with (first
    | (go_at_call_of 25 (Value.int .i64 c.a); refine (ends1_any c.a 0 9007199254741000 p q _ ?_ ?_).mono ?_; exact hp; exact hq; rintro e w' ⟨rfl, rfl⟩; rw [← HA.out])
    | (go_at_call_of 25 (Value.int .i64 c.v); refine (ends1_any c.v 0 9007199254741000 p q _ ?_ ?_).mono ?_; exact hp; exact hq; rintro e w' ⟨rfl, rfl⟩; rw [← HV.out]))
  all_goals
    have L2 := Lib.hid (new_drew (new_set (new_set L.out (p := ⟨w.heap.size, 0, none⟩) (Nat.le_refl _) (.int .i64 A)) (p := ⟨w.heap.size, 1, none⟩) (Nat.le_refl _) (.int .i64 V)))
    clear c0 c1 c2 f0 f1 f2
    have d0 := D.out.drew.cell 0 rfl
    have d1 := D.out.drew.cell 1 rfl
    have d2 := D.out.drew.cell 2 rfl
    have e0 := E.out.drew.cell 0 rfl
    have e1 := E.out.drew.cell 1 rfl
    have e2 := E.out.drew.cell 2 rfl
    have g0 := E.out.drew.frozen 0
    have g1 := E.out.drew.frozen 1
    have g2 := E.out.drew.frozen 2
    clear D E
    generalize ((w1.setCell ⟨w.heap.size, 0, none⟩ (.int .i64 A)).setCell ⟨w.heap.size, 1, none⟩ (.int .i64 V)).drew = W2 at *
    go_wp2_with fail
    exact bodyPost_ret (v := .agg #[.int .i64 A, .int .i64 V, .bool c.s]) (by simp [results, Try.results18, go_sem, e0, e1, e2]) rfl ⟨rfl, lowR3 L2.out (Nat.le_succ _) _ _ _⟩

theorem smooth20_any (c : Rtx) (w : World) : Calls Try.prog 9 #[rtG c] w fun e w' => e = .returned (.int .i64 (rtSm c)) ∧ Below w.heap.size w w' := by
  have b := rtIn_bd c.a
  unfold rtG rtSm
  have KP : Hid (∀ w, Calls Try.prog 18 #[.agg #[.int .i64 c.a, .int .i64 c.v, .bool c.s]] w fun e w' => e = .returned (.agg #[.int .i64 (rtIn c.a), .int .i64 (rtIn c.v), .bool c.s]) ∧ Below w.heap.size w w') := Lib.hid (fun w => kept20_any c w)
  generalize rtIn c.a = A at *
  generalize rtIn c.v = V at *
  have L := Lib.hid (new_alloc (new_refl w) (.cells #[.int .i64 c.a, .int .i64 c.v, .bool c.s] 23))
  have hfd : ∀ w : World, (Instr.field 23 (.agg #[.int .i64 A, .int .i64 V, .bool c.s]) 0).run Try.prog w = .ok (.int .i64 A) w := fun _ => by kernel_rfl
  go_enter Try.func9, Try.ntmps9
  go_wp2_with (first
    | (go_at_call 18; refine (KP.out _).mono ?_; rintro e w1 ⟨rfl, B1⟩)
    | (go_at_call 22; refine (divB_any _ 8 _ (by omega) (by decide)).mono ?_; rintro e w2 ⟨rfl, B2⟩))
  go_ret
  exact ⟨rfl, new_then (new_then L.out B1) B2⟩

theorem vary20_any (c : Rtx) (w : World) : Calls Try.prog 11 #[rtG c] w fun e w' => e = .returned (.int .i64 (rtVa c)) ∧ Below w.heap.size w w' := by
  have b := rtIn_bd c.v
  unfold rtG rtVa
  have KP : Hid (∀ w, Calls Try.prog 18 #[.agg #[.int .i64 c.a, .int .i64 c.v, .bool c.s]] w fun e w' => e = .returned (.agg #[.int .i64 (rtIn c.a), .int .i64 (rtIn c.v), .bool c.s]) ∧ Below w.heap.size w w') := Lib.hid (fun w => kept20_any c w)
  generalize rtIn c.a = A at *
  generalize rtIn c.v = V at *
  have L := Lib.hid (new_alloc (new_refl w) (.cells #[.int .i64 c.a, .int .i64 c.v, .bool c.s] 23))
  have hfd : ∀ w : World, (Instr.field 23 (.agg #[.int .i64 A, .int .i64 V, .bool c.s]) 1).run Try.prog w = .ok (.int .i64 V) w := fun _ => by kernel_rfl
  go_enter Try.func11, Try.ntmps11
  go_wp2_with (first
    | (go_at_call 18; refine (KP.out _).mono ?_; rintro e w1 ⟨rfl, B1⟩)
    | (go_at_call 22; refine (divB_any _ 4 _ (by omega) (by decide)).mono ?_; rintro e w2 ⟨rfl, B2⟩))
  go_ret
  exact ⟨rfl, new_then (new_then L.out B1) B2⟩
end Go.Proofs.Ytlfckllbpkehlaa
