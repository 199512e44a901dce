/- Package classic: ends, step, rising, falling and their closures; Round, Old. -/
import Derived.Test.YtmmccaaocfbdlaaClsM
import Derived.Test.YtmmccaaocfbdlaaMem
import Derived.Test.YtmmccaaocfbdlaaSatC
import Derived.Test.YtmmccaaocfbdlaaFixA
import Derived.Test.YtmmccaaocfbdlaaFixB
import Derived.Test.YtmmccaaocfbdlaaQuiB
import Derived.Laws.StructEq
import Derived.StillTailTactics
import Derived.OwnWalk
import Derived.Deep.RegionHeld3
import Derived.Deep.RegionWith
import Derived.Deep.CutBlock
import Derived.Deep.DeepCutAuto
import Derived.Deep.LoopGhost
import Derived.Deep.QuietTactic
import Derived.BigQuiet
import Derived.IntWalk
import Derived.Deep.Light
import Derived.Deep.Onto
namespace Go.Proofs.Ytmmccaaocfbdlaa
open Go.ChangeShapes Go.WideShapes Go.ChangeAt Go.RowKit
set_option linter.unusedVariables false

/-- The closure: its captured cells hold both ends. -/
theorem ends1K_any (x lo hi : Int) (p q : Nat) (w : World) (hp : w.cell? ⟨p, 0, none⟩ = some (.int .i64 lo)) (hq : w.cell? ⟨q, 0, none⟩ = some (.int .i64 hi)) :
    Calls Try.prog 14 #[.int .i64 x, .pointer (some ⟨p, 0, none⟩), .pointer (some ⟨q, 0, none⟩)] w fun e w' => e = .returned (.int .i64 (clampI x lo hi)) ∧ w = w' := by
  go_enter Try.func14, Try.ntmps14
  go_wp2_with (go_at_call 15; refine (satClamp_any _ _ _ _).mono ?_; rintro e w' ⟨rfl, rfl⟩)
  go_ret
  exact ⟨rfl, rfl⟩
def IsEndsK (lo hi : Int) (w : World) (e : Ending) (w' : World) : Prop :=
  ∃ p q, e = .returned (.func (.func 14) #[] #[.pointer (some ⟨p, 0, none⟩), .pointer (some ⟨q, 0, none⟩)]) ∧ w'.cell? ⟨p, 0, none⟩ = some (.int .i64 lo) ∧ w'.cell? ⟨q, 0, none⟩ = some (.int .i64 hi) ∧ Below w.heap.size w w' ∧ w.heap.size ≤ p ∧ w.heap.size ≤ q
theorem endsK_any (lo hi : Int) (w : World) : Calls Try.prog 9 #[.int .i64 lo, .int .i64 hi] w (IsEndsK lo hi w) := by
  go_enter Try.func9, Try.ntmps9
  go_wp2_with fail
  go_ret
  exact ⟨_, _, rfl, ((At.new w [.int .i64 lo] _).alloc _).cell 0 rfl, (At.newAt (by simp) [.int .i64 hi] _).cell 0 rfl, new_alloc (new_alloc (new_refl w) _) _, Nat.le_refl _, Nat.le_succ _⟩

/-- The closure of what a score falls to. -/
theorem falling1_any (x n : Int) (p : Nat) (w : World) (hx : 0 ≤ x ∧ x ≤ 2097152) (hn : 0 ≤ n ∧ n ≤ 62) (hp : w.cell? ⟨p, 0, none⟩ = some (.int .i64 n)) :
    Calls Try.prog 21 #[.int .i64 x, .pointer (some ⟨p, 0, none⟩)] w fun e w' => e = .returned (.int .i64 (twd x 0 n)) ∧ Below w.heap.size w w' := by
  have TW : Hid (∀ w, Calls Try.prog 22 #[.int .i64 x, .int .i64 0, .int .i64 n] w fun e w' => e = .returned (.int .i64 (twd x 0 n)) ∧ Below w.heap.size w w') := Lib.hid (fun w => toward_any x 0 n w (by omega) (by decide) (by omega))
  generalize twd x 0 n = T at *
  clear hx hn
  go_enter Try.func21, Try.ntmps21
  go_wp2_with (go_at_call 22; refine (TW.out _).mono ?_; rintro e w1 ⟨rfl, B1⟩)
  go_ret
  exact ⟨rfl, B1⟩
def IsFallK (n : Int) (w : World) (e : Ending) (w' : World) : Prop :=
  ∃ p, e = .returned (.func (.func 21) #[] #[.pointer (some ⟨p, 0, none⟩)]) ∧ w'.cell? ⟨p, 0, none⟩ = some (.int .i64 n) ∧ Below w.heap.size w w'
theorem fallingK_any (n : Int) (w : World) : Calls Try.prog 16 #[.int .i64 n] w (IsFallK n w) := by
  go_enter Try.func16, Try.ntmps16
  go_wp2_with fail
  go_ret
  exact ⟨_, rfl, (At.new w [.int .i64 n] _).cell 0 rfl, new_alloc (new_refl w) _⟩

/-- The closure of what a score rises to. -/
theorem rising1_any (x b : Int) (p : Nat) (w : World) (hx : 0 ≤ x ∧ x ≤ 2097152) (hb : 0 ≤ b ∧ b ≤ 262144) (hp : w.cell? ⟨p, 0, none⟩ = some (.int .i64 b)) :
    Calls Try.prog 26 #[.int .i64 x, .pointer (some ⟨p, 0, none⟩)] w fun e w' => e = .returned (.int .i64 (x + b)) ∧ w = w' := by
  have AD : Hid (∀ w, Calls Try.prog 27 #[.int .i64 x, .int .i64 b] w fun e w' => e = .returned (.int .i64 (x + b)) ∧ w = w') := Lib.hid (fun w => by
    have h := satAdd_any x b w (by omega) (by omega)
    rwa [sat64_mid _ (by omega) (by omega)] at h)
  generalize x + b = S at *
  clear hx hb
  go_enter Try.func26, Try.ntmps26
  go_wp2_with (go_at_call 27; refine (AD.out _).mono ?_; rintro e w1 ⟨rfl, rfl⟩)
  go_ret
  exact ⟨rfl, rfl⟩
def IsRiseK (b : Int) (w : World) (e : Ending) (w' : World) : Prop :=
  ∃ p, e = .returned (.func (.func 26) #[] #[.pointer (some ⟨p, 0, none⟩)]) ∧ w'.cell? ⟨p, 0, none⟩ = some (.int .i64 b) ∧ Below w.heap.size w w'
theorem risingK_any (d l : Int) (w : World) (hd : -9223372036854775808 ≤ d ∧ d ≤ 9223372036854775807) (hl : -9223372036854775808 ≤ l ∧ l ≤ 9223372036854775807) :
    Calls Try.prog 17 #[.int .i64 d, .int .i64 (clL l)] w (IsRiseK (clBy d l) w) := by
  have L := clL_bd l hl
  have SU : Hid (∀ w, Calls Try.prog 25 #[.int .i64 d, .int .i64 (clL l)] w fun e w' => e = .returned (.int .i64 (sat64 (d - clL l))) ∧ w = w') := Lib.hid (fun w => satSub_any d (clL l) w hd (by omega))
  have sb := sat64_bd (d - clL l)
  have RA : Hid (∀ w, Calls Try.prog 24 #[.int .i64 (sat64 (d - clL l)), .int .i64 (clL l)] w fun e w' => e = .returned (.int .i64 (rto (sat64 (d - clL l)) (clL l))) ∧ Below w.heap.size w w') := Lib.hid (fun w => ratio_any _ _ w sb (by omega))
  have HA : Hid (∀ w, Calls Try.prog 23 #[.int .i64 (rto (sat64 (d - clL l)) (clL l)), .int .i64 2] w fun e w' => e = .returned (.int .i64 (clBy d l)) ∧ Below w.heap.size w w') := Lib.hid (fun w => by
    have b := rto_bd (sat64 (d - clL l)) (clL l)
    have h := halve_any (rto (sat64 (d - clL l)) (clL l)) 2 w (by omega) (by omega)
    rwa [hlv_two] at h)
  generalize clBy d l = B at *
  generalize rto (sat64 (d - clL l)) (clL l) = R at *
  generalize sat64 (d - clL l) = S at *
  generalize clL l = C at *
  clear hd hl L sb
  go_enter Try.func17, Try.ntmps17
  go_wp2_with (first
    | (go_at_call 25; refine (SU.out _).mono ?_; rintro e w1 ⟨rfl, rfl⟩)
    | (go_at_call 24; refine (RA.out _).mono ?_; rintro e w2 ⟨rfl, B2⟩)
    | (go_at_call 23; refine (HA.out _).mono ?_; rintro e w3 ⟨rfl, B3⟩))
  go_ret
  exact ⟨_, rfl, (At.new w3 [.int .i64 B] _).cell 0 rfl, new_alloc (new_then B2 B3) _⟩

/-- Where a round moves a score to: three ways. -/
theorem step_not (d l : Int) (w : World) : Calls Try.prog 10 #[.bool false, .int .i64 d, .int .i64 l] w (IsFallK 6 w) := by
  go_enter Try.func10, Try.ntmps10
  go_wp2_with (go_at_call 16; refine (fallingK_any _ _).mono ?_; rintro e w1 ⟨p, rfl, hp, B1⟩)
  go_ret
  exact ⟨p, rfl, hp, B1⟩
theorem max_clL (l : Int) : max l 1 = clL l := by unfold clL; split <;> omega
theorem step_shallow (d l : Int) (w : World) (h : d ≤ clL l) : Calls Try.prog 10 #[.bool true, .int .i64 d, .int .i64 l] w (IsFallK 3 w) := by
  obtain ⟨m1, m2, m3⟩ := rnMax_is (max_clL l)
  generalize clL l = C at *
  go_enter Try.func10, Try.ntmps10
  go_wp2_with (go_at_call 16; refine (fallingK_any _ _).mono ?_; rintro e w1 ⟨p, rfl, hp, B1⟩)
  go_ret
  exact ⟨p, rfl, hp, B1⟩
theorem step_deep (d l : Int) (w : World) (hd : -9223372036854775808 ≤ d ∧ d ≤ 9223372036854775807) (hl : -9223372036854775808 ≤ l ∧ l ≤ 9223372036854775807) (h : ¬ d ≤ clL l) :
    Calls Try.prog 10 #[.bool true, .int .i64 d, .int .i64 l] w (IsRiseK (clBy d l) w) := by
  obtain ⟨m1, m2, m3⟩ := rnMax_is (max_clL l)
  have RI : Hid (∀ w, Calls Try.prog 17 #[.int .i64 d, .int .i64 (clL l)] w (IsRiseK (clBy d l) w)) := Lib.hid (fun w => risingK_any d l w hd hl)
  generalize clBy d l = B at *
  generalize clL l = C at *
  clear hd hl
  go_enter Try.func10, Try.ntmps10
  go_wp2_with (go_at_call 17; refine (RI.out _).mono ?_; rintro e w1 ⟨p, rfl, hp, B1⟩)
  go_ret
  exact ⟨p, rfl, hp, B1⟩

/-- Both blocks of Round: what came in, and the answer's room. -/
structure ClAt (w wr : World) (s t : Int) : Prop where
  cur : Blk wr w.heap.size [.int .i64 s] 23
  res : Blk wr (w.heap.size + 1) [.int .i64 t] 23
  low : Below w.heap.size w wr
theorem cl_start (w : World) (s : Int) : ClAt w ((w.alloc (.cells #[.int .i64 s] 23)).alloc (.cells #[.int .i64 0] 23)) s 0 :=
  ⟨(Blk.new w [.int .i64 s] _).alloc _, Blk.newAt (alloc_size w _) [.int .i64 0] _, new_alloc (new_alloc (new_refl w) _) _⟩
theorem ClAt.kept {w wr w1 : World} {s t : Int} (h : ClAt w wr s t) (B : Below wr.heap.size wr w1) : ClAt w w1 s t := ⟨h.cur.kept B, h.res.kept B, new_then h.low B⟩
theorem ClAt.setR {w wr : World} {s t : Int} (h : ClAt w wr s t) (x : Int) : ClAt w (wr.setCell ⟨w.heap.size + 1, 0, none⟩ (.int .i64 x)) s x :=
  ⟨h.cur.far (p := ⟨w.heap.size + 1, 0, none⟩) (show w.heap.size ≠ w.heap.size + 1 by omega) _, h.res.set 0 _, new_set h.low (p := ⟨w.heap.size + 1, 0, none⟩) (Nat.le_succ _) _⟩
def ClIs (w : World) (t : Int) (e : Ending) (w' : World) : Prop := e = .returned (.agg #[.int .i64 t]) ∧ Below w.heap.size w w'

/-- A round in which the score falls. -/
theorem round_falls (s d l n : Int) (m : Bool) (w : World) (hn : 0 ≤ n ∧ n ≤ 62) (ST : Hid (∀ w, Calls Try.prog 10 #[.bool m, .int .i64 d, .int .i64 l] w (IsFallK n w))) :
    Calls Try.prog 5 #[.agg #[.int .i64 s], .bool m, .int .i64 d, .int .i64 l] w (ClIs w (twd (clS s) 0 n)) := by
  unfold ClIs
  have bs := clS_bd s
  have E1 : Hid (clampI s 0 2097152 = clS s) := Lib.hid rfl
  have E2 : Hid (clampI (twd (clS s) 0 n) 0 2097152 = twd (clS s) 0 n) := Lib.hid (clFall_is s n)
  have FA : Hid (∀ w p, w.cell? ⟨p, 0, none⟩ = some (.int .i64 n) → Calls Try.prog 21 #[.int .i64 (clS s), .pointer (some ⟨p, 0, none⟩)] w fun e w' => e = .returned (.int .i64 (twd (clS s) 0 n)) ∧ Below w.heap.size w w') := Lib.hid (fun w p hp => falling1_any (clS s) n p w bs hn hp)
  generalize twd (clS s) 0 n = T at *
  generalize clS s = C at *
  clear bs hn
  have S := Lib.hid (cl_start w s)
  go_enter Try.func5, Try.ntmps5
  go_upto_region 2 with (first
    | (go_at_call 9; refine (endsK_any _ _ _).mono ?_; rintro e w1 ⟨p, q, rfl, hp, hq, B1, lp, lq⟩
       have K1 := Lib.hid (S.out.kept B1)
       have HP := Lib.hid hp
       have HQ := Lib.hid hq)
    | (go_at_call 10; refine (ST.out _).mono ?_; rintro e w2 ⟨r, rfl, hr, B2⟩
       have K2 := Lib.hid (K1.out.kept B2)
       replace hp := cell_kept B2 HP.out
       replace hq := cell_kept B2 HQ.out))
  have c0 := K2.out.cur.cell 0 rfl
  go_wp2_with (first
    | (go_at_call_of 14 (Value.int .i64 s); refine (ends1K_any _ _ _ p q _ hp hq).mono ?_; rintro e w3 ⟨rfl, rfl⟩; rw [E1.out])
    | (go_at_call 21; refine (FA.out _ r hr).mono ?_; rintro e w4 ⟨rfl, B4⟩
       have K4 := Lib.hid (K2.out.kept B4)
       have Z := Lib.hid (K4.out.setR T)
       have hp4 := cell_kept B4 hp
       have hq4 := cell_kept B4 hq
       have x0 := K4.out.res.cell 0 rfl; have f0 := K4.out.res.frozen 0)
    | (go_at_call 14; refine (ends1K_any _ _ _ p q _ hp4 hq4).mono ?_; rintro e w5 ⟨rfl, rfl⟩; rw [E2.out]))
  have z0 := Z.out.res.cell 0 rfl
  exact bodyPost_ret (v := .agg #[.int .i64 T]) (by simp [results, Try.results5, go_sem, z0]) rfl ⟨rfl, Z.out.low⟩
/-- A deep round. -/
theorem round_rises (s d l : Int) (w : World) (ST : Hid (∀ w, Calls Try.prog 10 #[.bool true, .int .i64 d, .int .i64 l] w (IsRiseK (clBy d l) w))) :
    Calls Try.prog 5 #[.agg #[.int .i64 s], .bool true, .int .i64 d, .int .i64 l] w (ClIs w (clUp s d l)) := by
  unfold ClIs
  have bs := clS_bd s
  have bb := clBy_bd d l
  have E1 : Hid (clampI s 0 2097152 = clS s) := Lib.hid rfl
  have E2 : Hid (clampI (clS s + clBy d l) 0 2097152 = clUp s d l) := Lib.hid (clUp_is s d l)
  have FA : Hid (∀ w p, w.cell? ⟨p, 0, none⟩ = some (.int .i64 (clBy d l)) → Calls Try.prog 26 #[.int .i64 (clS s), .pointer (some ⟨p, 0, none⟩)] w fun e w' => e = .returned (.int .i64 (clS s + clBy d l)) ∧ w = w') := Lib.hid (fun w p hp => rising1_any (clS s) (clBy d l) p w bs bb hp)
  generalize clUp s d l = T at *
  obtain ⟨X, hX⟩ : ∃ X, clS s + clBy d l = X := ⟨_, rfl⟩
  rw [hX] at FA E2
  clear hX
  generalize clBy d l = B at *
  generalize clS s = C at *
  clear bs bb
  have S := Lib.hid (cl_start w s)
  go_enter Try.func5, Try.ntmps5
  go_upto_region 2 with (first
    | (go_at_call 9; refine (endsK_any _ _ _).mono ?_; rintro e w1 ⟨p, q, rfl, hp, hq, B1, lp, lq⟩
       have K1 := Lib.hid (S.out.kept B1)
       have HP := Lib.hid hp
       have HQ := Lib.hid hq)
    | (go_at_call 10; refine (ST.out _).mono ?_; rintro e w2 ⟨r, rfl, hr, B2⟩
       have K2 := Lib.hid (K1.out.kept B2)
       have Z := Lib.hid (K2.out.setR T)
       replace hp := cell_kept B2 HP.out
       replace hq := cell_kept B2 HQ.out))
  have c0 := K2.out.cur.cell 0 rfl; have x0 := K2.out.res.cell 0 rfl; have f0 := K2.out.res.frozen 0
  go_wp2_with (first
    | (go_at_call_of 14 (Value.int .i64 s); refine (ends1K_any _ _ _ p q _ hp hq).mono ?_; rintro e w3 ⟨rfl, rfl⟩; rw [E1.out])
    | (go_at_call 26; refine (FA.out _ r hr).mono ?_; rintro e w4 ⟨rfl, rfl⟩)
    | (go_at_call_of 14 (Value.int .i64 X); refine (ends1K_any _ _ _ p q _ hp hq).mono ?_; rintro e w5 ⟨rfl, rfl⟩; rw [E2.out]))
  have z0 := Z.out.res.cell 0 rfl
  exact bodyPost_ret (v := .agg #[.int .i64 T]) (by simp [results, Try.results5, go_sem, z0]) rfl ⟨rfl, Z.out.low⟩

theorem round27_any (s : Int) (m : Bool) (d l : Int) (w : World) (hd : -9223372036854775808 ≤ d ∧ d ≤ 9223372036854775807) (hl : -9223372036854775808 ≤ l ∧ l ≤ 9223372036854775807) :
    Calls Try.prog 5 #[.agg #[.int .i64 s], .bool m, .int .i64 d, .int .i64 l] w fun e w' => e = .returned (.agg #[.int .i64 (clR s m d l)]) ∧ Below w.heap.size w w' := by
  cases m with
  | false => rw [clR_not]; exact round_falls s d l 6 false w (by decide) (Lib.hid fun w => step_not d l w)
  | true =>
    by_cases h : d ≤ clL l
    · rw [clR_shallow h]; exact round_falls s d l 3 true w (by decide) (Lib.hid fun w => step_shallow d l w h)
    · rw [clR_deep h]; exact round_rises s d l w (Lib.hid fun w => step_deep d l w hd hl h)

theorem old27_any (s : Int) (w : World) : Calls Try.prog 7 #[.agg #[.int .i64 s]] w fun e w' => e = .returned (.bool (clOld s)) ∧ Below w.heap.size w w' := by
  unfold clOld
  go_enter Try.func7, Try.ntmps7
  go_wp2_with fail
  go_ret
  exact ⟨rfl, new_alloc (new_refl w) _⟩
end Go.Proofs.Ytmmccaaocfbdlaa
