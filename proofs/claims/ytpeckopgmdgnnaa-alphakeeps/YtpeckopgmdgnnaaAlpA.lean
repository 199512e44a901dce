/- Package alpha: ends are kept by a closure; a state within its ends; a new one. -/
import Derived.Test.YtpeckopgmdgnnaaAlpM
import Derived.Test.YtpeckopgmdgnnaaMem
import Derived.Test.YtpeckopgmdgnnaaSatC
import Derived.Test.YtpeckopgmdgnnaaFixB
import Derived.Test.YtpeckopgmdgnnaaQuiB
import Derived.Laws.StructEq
import Derived.StillTailTactics
import Derived.OwnWalk
import Derived.Deep.RegionHeld3
import Derived.Deep.RegionWith
import Derived.Deep.CutBlock
import Derived.Deep.DeepCutAuto
import Derived.Deep.LoopGhost
import Derived.Deep.QuietTactic
import Derived.BigQuiet
import Derived.IntWalk
import Derived.Deep.Light
import Derived.Deep.Onto
namespace Go.Proofs.Ytpeckopgmdgnnaa
open Go.ChangeShapes Go.WideShapes Go.ChangeAt Go.RowKit
set_option linter.unusedVariables false

/-- The closure: its captured cells hold both ends. -/
theorem ends1A_any (x lo hi : Int) (p q : Nat) (w : World) (hp : w.cell? ⟨p, 0, none⟩ = some (.int .i64 lo)) (hq : w.cell? ⟨q, 0, none⟩ = some (.int .i64 hi)) :
    Calls Try.prog 27 #[.int .i64 x, .pointer (some ⟨p, 0, none⟩), .pointer (some ⟨q, 0, none⟩)] w fun e w' => e = .returned (.int .i64 (clampI x lo hi)) ∧ w = w' := by
  go_enter Try.func27, Try.ntmps27
  go_wp2_with (go_at_call 28; refine (satClamp_any _ _ _ _).mono ?_; rintro e w' ⟨rfl, rfl⟩)
  go_ret
  exact ⟨rfl, rfl⟩
def IsEndsA (lo hi : Int) (w : World) (e : Ending) (w' : World) : Prop :=
  ∃ p q, e = .returned (.func (.func 27) #[] #[.pointer (some ⟨p, 0, none⟩), .pointer (some ⟨q, 0, none⟩)]) ∧ w'.cell? ⟨p, 0, none⟩ = some (.int .i64 lo) ∧ w'.cell? ⟨q, 0, none⟩ = some (.int .i64 hi) ∧ Below w.heap.size w w' ∧ w.heap.size ≤ p ∧ w.heap.size ≤ q
theorem endsA_any (lo hi : Int) (w : World) : Calls Try.prog 17 #[.int .i64 lo, .int .i64 hi] w (IsEndsA lo hi w) := by
  go_enter Try.func17, Try.ntmps17
  go_wp2_with fail
  go_ret
  exact ⟨_, _, rfl, ((At.new w [.int .i64 lo] _).alloc _).cell 0 rfl, (At.newAt (by simp) [.int .i64 hi] _).cell 0 rfl, new_alloc (new_alloc (new_refl w) _) _, Nat.le_refl _, Nat.le_succ _⟩

abbrev apV (c : Ap) : List Value := [.int .i64 c.s, .int .i64 c.k, .int .i64 c.m, .int .i64 c.e]
abbrev apG (c : Ap) : Value := .agg #[.int .i64 c.s, .int .i64 c.k, .int .i64 c.m, .int .i64 c.e]
def ApIs (w : World) (c : Ap) (e : Ending) (w' : World) : Prop := e = .returned (apG c) ∧ Below w.heap.size w w'
def ApWas (w : World) (c : Ap) (f : Bool) (e : Ending) (w' : World) : Prop := e = .returned (.tuple #[apG c, .bool f]) ∧ Below w.heap.size w w'
abbrev apO : Ap := ⟨0, 0, 0, 0⟩
theorem ap_set {w : World} {g : Nat} {c : Ap} (h : Blk w g (apV c) 23) (d : Ap) :
    Blk ((((w.setCell ⟨g, 0, none⟩ (.int .i64 d.s)).setCell ⟨g, 1, none⟩ (.int .i64 d.k)).setCell ⟨g, 2, none⟩ (.int .i64 d.m)).setCell ⟨g, 3, none⟩ (.int .i64 d.e)) g (apV d) 23 :=
  (((h.set 0 (.int .i64 d.s)).set 1 (.int .i64 d.k)).set 2 (.int .i64 d.m)).set 3 (.int .i64 d.e)
theorem farA4 {w : World} {g p : Nat} {vs : List Value} {t : TypeId} (h : Blk w g vs t) (hp : g ≠ p) (a b c d : Value) :
    Blk ((((w.setCell ⟨p, 0, none⟩ a).setCell ⟨p, 1, none⟩ b).setCell ⟨p, 2, none⟩ c).setCell ⟨p, 3, none⟩ d) g vs t :=
  (((h.far (p := ⟨p, 0, none⟩) hp a).far (p := ⟨p, 1, none⟩) hp b).far (p := ⟨p, 2, none⟩) hp c).far (p := ⟨p, 3, none⟩) hp d
theorem lowA4 {w0 w : World} {p : Nat} (h : Below w0.heap.size w0 w) (hp : w0.heap.size ≤ p) (a b c d : Value) :
    Below w0.heap.size w0 ((((w.setCell ⟨p, 0, none⟩ a).setCell ⟨p, 1, none⟩ b).setCell ⟨p, 2, none⟩ c).setCell ⟨p, 3, none⟩ d) :=
  new_set (new_set (new_set (new_set h (p := ⟨p, 0, none⟩) hp a) (p := ⟨p, 1, none⟩) hp b) (p := ⟨p, 2, none⟩) hp c) (p := ⟨p, 3, none⟩) hp d
/-- Both blocks: what came in, and the answer's room. -/
structure ApAt (w wr : World) (c d : Ap) : Prop where
  cur : Blk wr w.heap.size (apV c) 23
  res : Blk wr (w.heap.size + 1) (apV d) 23
  low : Below w.heap.size w wr
theorem ap_start (w : World) (c : Ap) : ApAt w ((w.alloc (.cells #[.int .i64 c.s, .int .i64 c.k, .int .i64 c.m, .int .i64 c.e] 23)).alloc (.cells #[.int .i64 0, .int .i64 0, .int .i64 0, .int .i64 0] 23)) c apO :=
  ⟨(Blk.new w (apV c) _).alloc _, Blk.newAt (alloc_size w _) (apV apO) _, new_alloc (new_alloc (new_refl w) _) _⟩
theorem ApAt.kept {w wr w1 : World} {c d : Ap} (h : ApAt w wr c d) (B : Below wr.heap.size wr w1) : ApAt w w1 c d := ⟨h.cur.kept B, h.res.kept B, new_then h.low B⟩
theorem ApAt.setC {w wr : World} {c d : Ap} (h : ApAt w wr c d) (x : Ap) : ApAt w ((((wr.setCell ⟨w.heap.size, 0, none⟩ (.int .i64 x.s)).setCell ⟨w.heap.size, 1, none⟩ (.int .i64 x.k)).setCell ⟨w.heap.size, 2, none⟩ (.int .i64 x.m)).setCell ⟨w.heap.size, 3, none⟩ (.int .i64 x.e)) x d :=
  ⟨ap_set h.cur x, farA4 h.res (by omega) _ _ _ _, lowA4 h.low (Nat.le_refl _) _ _ _ _⟩
theorem ApAt.setR {w wr : World} {c d : Ap} (h : ApAt w wr c d) (x : Ap) : ApAt w ((((wr.setCell ⟨w.heap.size + 1, 0, none⟩ (.int .i64 x.s)).setCell ⟨w.heap.size + 1, 1, none⟩ (.int .i64 x.k)).setCell ⟨w.heap.size + 1, 2, none⟩ (.int .i64 x.m)).setCell ⟨w.heap.size + 1, 3, none⟩ (.int .i64 x.e)) c x :=
  ⟨farA4 h.cur (by omega) _ _ _ _, ap_set h.res x, lowA4 h.low (Nat.le_succ _) _ _ _ _⟩
theorem ApAt.set0 {w wr : World} {c d : Ap} (h : ApAt w wr c d) (x : Int) : ApAt w (wr.setCell ⟨w.heap.size, 0, none⟩ (.int .i64 x)) ⟨x, c.k, c.m, c.e⟩ d :=
  ⟨h.cur.set 0 _, h.res.far (p := ⟨w.heap.size, 0, none⟩) (show w.heap.size + 1 ≠ w.heap.size by omega) _, new_set h.low (p := ⟨w.heap.size, 0, none⟩) (Nat.le_refl _) _⟩
theorem ApAt.set1 {w wr : World} {c d : Ap} (h : ApAt w wr c d) (x : Int) : ApAt w (wr.setCell ⟨w.heap.size, 1, none⟩ (.int .i64 x)) ⟨c.s, x, c.m, c.e⟩ d :=
  ⟨h.cur.set 1 _, h.res.far (p := ⟨w.heap.size, 1, none⟩) (show w.heap.size + 1 ≠ w.heap.size by omega) _, new_set h.low (p := ⟨w.heap.size, 1, none⟩) (Nat.le_refl _) _⟩
theorem ApAt.set2 {w wr : World} {c d : Ap} (h : ApAt w wr c d) (x : Int) : ApAt w (wr.setCell ⟨w.heap.size, 2, none⟩ (.int .i64 x)) ⟨c.s, c.k, x, c.e⟩ d :=
  ⟨h.cur.set 2 _, h.res.far (p := ⟨w.heap.size, 2, none⟩) (show w.heap.size + 1 ≠ w.heap.size by omega) _, new_set h.low (p := ⟨w.heap.size, 2, none⟩) (Nat.le_refl _) _⟩
theorem ApAt.set3 {w wr : World} {c d : Ap} (h : ApAt w wr c d) (x : Int) : ApAt w (wr.setCell ⟨w.heap.size, 3, none⟩ (.int .i64 x)) ⟨c.s, c.k, c.m, x⟩ d :=
  ⟨h.cur.set 3 _, h.res.far (p := ⟨w.heap.size, 3, none⟩) (show w.heap.size + 1 ≠ w.heap.size by omega) _, new_set h.low (p := ⟨w.heap.size, 3, none⟩) (Nat.le_refl _) _⟩


set_option maxHeartbeats 2000000 in
theorem within25_any (c : Ap) (w : World) : Calls Try.prog 14 #[apG c] w (ApIs w (apIn c)) := by
  unfold ApIs apG apIn
  have ES : Hid (clampI c.s 0 1048576 = shr c.s) := Lib.hid (clamp_shr c.s)
  have EK : Hid (clampI c.k 0 1099511627776 = apK c) := Lib.hid rfl
  have EM : Hid (clampI c.m 0 (apK c) = apM c) := Lib.hid rfl
  have S := Lib.hid (ap_start w c)
  generalize shr c.s = R at *
  generalize apK c = U at *
  generalize apM c = L at *
  go_enter Try.func14, Try.ntmps14
  go_upto_region 1 with fail
  go_cut [] (fun wx => ApAt w wx ⟨R, c.k, c.m, c.e⟩ apO)
  case first =>
    have c0 := S.out.cur.cell 0 rfl
    go_region_with (first
      | (go_at_call 17; refine (endsA_any _ _ _).mono ?_; rintro e w4 ⟨p, q, rfl, hp, hq, B4, lp, lq⟩
         replace B4 := new_undrew B4
         have K4 := Lib.hid (S.out.kept B4)
         have V := Lib.hid (K4.out.set0 R)
         have k42 := K4.out.cur.cell 0 rfl
         have n42 := K4.out.cur.frozen 0)
      | (go_at_call 27; refine (ends1A_any _ _ _ p q _ hp hq).mono ?_; rintro e w5 ⟨rfl, rfl⟩; rw [ES.out]))
    all_goals
      go_wp2_with fail
      go_meet
      exact V.out
  case rest =>
    have S2 := Lib.hid hcut
    clear hcut S ES
    have c0 := S2.out.cur.cell 0 rfl; have c1 := S2.out.cur.cell 1 rfl
    go_upto_region 2 with fail
    go_cut [] (fun wx => ApAt w wx ⟨R, U, c.m, c.e⟩ apO)
    case first =>
      go_region_with (first
        | (go_at_call 17; refine (endsA_any _ _ _).mono ?_; rintro e w4 ⟨p, q, rfl, hp, hq, B4, lp, lq⟩
           replace B4 := new_undrew B4
           have K4 := Lib.hid (S2.out.kept B4)
           have V := Lib.hid (K4.out.set1 U)
           have k42 := K4.out.cur.cell 1 rfl
           have n42 := K4.out.cur.frozen 1)
        | (go_at_call 27; refine (ends1A_any _ _ _ p q _ hp hq).mono ?_; rintro e w5 ⟨rfl, rfl⟩; rw [EK.out]))
      all_goals
        go_wp2_with fail
        go_meet
        exact V.out
    case rest =>
      have S3 := Lib.hid hcut
      clear hcut S2 EK c0 c1
      have c0 := S3.out.cur.cell 0 rfl; have c1 := S3.out.cur.cell 1 rfl; have c2 := S3.out.cur.cell 2 rfl
      go_upto_region 3 with fail
      go_cut [] (fun wx => ApAt w wx ⟨R, U, L, c.e⟩ apO)
      case first =>
        go_region_with (first
          | (go_at_call 17; refine (endsA_any _ _ _).mono ?_; rintro e w4 ⟨p, q, rfl, hp, hq, B4, lp, lq⟩
             replace B4 := new_undrew B4
             have K4 := Lib.hid (S3.out.kept B4)
             have V := Lib.hid (K4.out.set2 L)
             have k42 := K4.out.cur.cell 2 rfl
             have n42 := K4.out.cur.frozen 2)
          | (go_at_call 27; refine (ends1A_any _ _ _ p q _ hp hq).mono ?_; rintro e w5 ⟨rfl, rfl⟩; rw [EM.out]))
        all_goals
          go_wp2_with fail
          go_meet
          exact V.out
      case rest =>
        have S4 := Lib.hid hcut
        clear hcut S3 EM c0 c1 c2
        have c0 := S4.out.cur.cell 0 rfl; have c1 := S4.out.cur.cell 1 rfl; have c2 := S4.out.cur.cell 2 rfl; have c3 := S4.out.cur.cell 3 rfl
        have Z := Lib.hid (S4.out.setR ⟨R, U, L, c.e⟩)
        have r0 := S4.out.res.cell 0 rfl; have r1 := S4.out.res.cell 1 rfl; have r2 := S4.out.res.cell 2 rfl; have r3 := S4.out.res.cell 3 rfl; have q0 := S4.out.res.frozen 0; have q1 := S4.out.res.frozen 1; have q2 := S4.out.res.frozen 2; have q3 := S4.out.res.frozen 3
        go_wp2_with fail
        exact bodyPost_ret (v := .agg #[.int .i64 R, .int .i64 U, .int .i64 L, .int .i64 c.e]) (by simp [results, Try.results14, go_sem, r0, r1, r2, r3]) rfl ⟨rfl, Z.out.low⟩
theorem start25_any (s n : Int) (w : World) : Calls Try.prog 8 #[.int .i64 s, .int .i64 n] w (ApIs w (apStart s n)) := by
  unfold ApIs apStart
  have ES : Hid (clampI s 0 1048576 = shr s) := Lib.hid (clamp_shr s)
  have A := Lib.hid (new_alloc (new_refl w) (.cells #[.int .i64 0, .int .i64 0, .int .i64 0, .int .i64 0] 23))
  have N := Lib.hid (Blk.new w [.int .i64 0, .int .i64 0, .int .i64 0, .int .i64 0] 23)
  generalize shr s = R at *
  go_enter Try.func8, Try.ntmps8
  go_wp2_with (first
    | (go_at_call 17; refine (endsA_any _ _ _).mono ?_; rintro e w1 ⟨p, q, rfl, hp, hq, B, lp, lq⟩
       have L := Lib.hid (new_then A.out B)
       have K := Lib.hid (N.out.kept B)
       have r0 := K.out.cell 0 rfl; have r1 := K.out.cell 1 rfl; have r2 := K.out.cell 2 rfl; have r3 := K.out.cell 3 rfl; have q0 := K.out.frozen 0; have q1 := K.out.frozen 1; have q2 := K.out.frozen 2; have q3 := K.out.frozen 3)
    | (go_at_call 27; refine (ends1A_any _ _ _ p q _ hp hq).mono ?_; rintro e w2 ⟨rfl, rfl⟩; rw [ES.out]))
  exact bodyPost_ret (v := .agg #[.int .i64 R, .int .i64 0, .int .i64 0, .int .i64 n]) (by simp [results, Try.results8, go_sem, r0, r1, r2, r3]) rfl ⟨rfl, lowA4 L.out (Nat.le_refl _) _ _ _ _⟩
end Go.Proofs.Ytpeckopgmdgnnaa
