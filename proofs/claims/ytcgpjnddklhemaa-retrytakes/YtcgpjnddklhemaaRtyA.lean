/- Package retry: what a state is behind one more acknowledgement, and behind a timeout. -/
import Derived.Test.YtcgpjnddklhemaaRtyM
import Derived.Test.YtcgpjnddklhemaaMem
import Derived.Test.YtcgpjnddklhemaaQuiB
import Derived.Laws.StructEq
import Derived.StillTailTactics
import Derived.OwnWalk
import Derived.Deep.RegionHeld3
import Derived.Deep.RegionWith
import Derived.Deep.CutBlock
import Derived.Deep.DeepCutAuto
import Derived.Deep.LoopGhost
import Derived.Deep.QuietTactic
import Derived.BigQuiet
import Derived.IntWalk
import Derived.Deep.Light
import Derived.Deep.Onto
namespace Go.Proofs.Ytcgpjnddklhemaa
open Go.ChangeShapes Go.WideShapes Go.ChangeAt Go.RowKit
set_option linter.unusedVariables false

abbrev ryV (c : Ry) : List Value := [.int .i64 c.a, .int .i64 c.d, .int .i64 c.p, .bool c.i]
abbrev ryG (c : Ry) : Value := .agg #[.int .i64 c.a, .int .i64 c.d, .int .i64 c.p, .bool c.i]
def RyOne (w : World) (D : Ry) (e : Ending) (w' : World) : Prop := e = .returned (ryG D) ∧ Below w.heap.size w w'
def RyWas (w : World) (D : Ry) (x : Int) (e : Ending) (w' : World) : Prop := e = .returned (.tuple #[ryG D, .int .i64 x]) ∧ Below w.heap.size w w'
abbrev ryO : Ry := ⟨0, 0, 0, false⟩
theorem ry_set {w : World} {g : Nat} {c : Ry} (h : Blk w g (ryV c) 23) (d : Ry) :
    Blk ((((w.setCell ⟨g, 0, none⟩ (.int .i64 d.a)).setCell ⟨g, 1, none⟩ (.int .i64 d.d)).setCell ⟨g, 2, none⟩ (.int .i64 d.p)).setCell ⟨g, 3, none⟩ (.bool d.i)) g (ryV d) 23 :=
  (((h.set 0 (.int .i64 d.a)).set 1 (.int .i64 d.d)).set 2 (.int .i64 d.p)).set 3 (.bool d.i)
theorem farY4 {w : World} {g p : Nat} {vs : List Value} {t : TypeId} (h : Blk w g vs t) (hp : g ≠ p) (a b c d : Value) :
    Blk ((((w.setCell ⟨p, 0, none⟩ a).setCell ⟨p, 1, none⟩ b).setCell ⟨p, 2, none⟩ c).setCell ⟨p, 3, none⟩ d) g vs t :=
  (((h.far (p := ⟨p, 0, none⟩) hp a).far (p := ⟨p, 1, none⟩) hp b).far (p := ⟨p, 2, none⟩) hp c).far (p := ⟨p, 3, none⟩) hp d
theorem lowY4 {w0 w : World} {p : Nat} (h : Below w0.heap.size w0 w) (hp : w0.heap.size ≤ p) (a b c d : Value) :
    Below w0.heap.size w0 ((((w.setCell ⟨p, 0, none⟩ a).setCell ⟨p, 1, none⟩ b).setCell ⟨p, 2, none⟩ c).setCell ⟨p, 3, none⟩ d) :=
  new_set (new_set (new_set (new_set h (p := ⟨p, 0, none⟩) hp a) (p := ⟨p, 1, none⟩) hp b) (p := ⟨p, 2, none⟩) hp c) (p := ⟨p, 3, none⟩) hp d
/-- Both blocks: what came in, and the answer's room. -/
structure RyAt (w wr : World) (c d : Ry) : Prop where
  cur : Blk wr w.heap.size (ryV c) 23
  res : Blk wr (w.heap.size + 1) (ryV d) 23
  low : Below w.heap.size w wr
theorem ry_start (w : World) (c : Ry) : RyAt w ((w.alloc (.cells #[.int .i64 c.a, .int .i64 c.d, .int .i64 c.p, .bool c.i] 23)).alloc (.cells #[.int .i64 0, .int .i64 0, .int .i64 0, .bool false] 23)) c ryO :=
  ⟨(Blk.new w (ryV c) _).alloc _, Blk.newAt (alloc_size w _) (ryV ryO) _, new_alloc (new_alloc (new_refl w) _) _⟩
theorem RyAt.kept {w wr w1 : World} {c d : Ry} (h : RyAt w wr c d) (B : Below wr.heap.size wr w1) : RyAt w w1 c d := ⟨h.cur.kept B, h.res.kept B, new_then h.low B⟩
theorem RyAt.setR {w wr : World} {c d : Ry} (h : RyAt w wr c d) (x : Ry) : RyAt w ((((wr.setCell ⟨w.heap.size + 1, 0, none⟩ (.int .i64 x.a)).setCell ⟨w.heap.size + 1, 1, none⟩ (.int .i64 x.d)).setCell ⟨w.heap.size + 1, 2, none⟩ (.int .i64 x.p)).setCell ⟨w.heap.size + 1, 3, none⟩ (.bool x.i)) c x :=
  ⟨farY4 h.cur (by omega) _ _ _ _, ry_set h.res x, lowY4 h.low (Nat.le_succ _) _ _ _ _⟩

set_option maxHeartbeats 1000000 in
theorem awaiting28_any (a d p : Int) (i : Bool) (s : Int) (w : World) : Calls Try.prog 11 #[.agg #[.int .i64 a, .int .i64 d, .int .i64 p, .bool i], .int .i64 s] w (RyOne w ⟨a, d, s, true⟩) := by
  unfold RyOne
  go_enter Try.func11, Try.ntmps11
  go_wp2_with fail
  exact bodyPost_ret (v := .agg #[.int .i64 a, .int .i64 d, .int .i64 s, .bool true]) (by simp [results, Try.results11, go_sem]) rfl ⟨rfl, new_alloc (new_alloc (new_refl w) _) _⟩

set_option maxHeartbeats 1000000 in
theorem timeout28_any (a d p : Int) (i : Bool) (s : Int) (w : World) : Calls Try.prog 7 #[.agg #[.int .i64 a, .int .i64 d, .int .i64 p, .bool i], .int .i64 s] w (RyOne w ⟨a, 0, s, true⟩) := by
  unfold RyOne
  have S := Lib.hid (ry_start w ⟨a, 0, p, i⟩)
  go_enter Try.func7, Try.ntmps7
  go_wp2_with (go_at_call 11; refine (awaiting28_any _ _ _ _ _ _).mono ?_; rintro e w1 ⟨rfl, B1⟩
               have K1 := Lib.hid (S.out.kept B1)
               have Z := Lib.hid (K1.out.setR ⟨a, 0, s, true⟩)
               have r0 := K1.out.res.cell 0 rfl; have r1 := K1.out.res.cell 1 rfl; have r2 := K1.out.res.cell 2 rfl; have r3 := K1.out.res.cell 3 rfl; have q0 := K1.out.res.frozen 0; have q1 := K1.out.res.frozen 1; have q2 := K1.out.res.frozen 2; have q3 := K1.out.res.frozen 3)
  exact bodyPost_ret (v := .agg #[.int .i64 a, .int .i64 0, .int .i64 s, .bool true]) (by simp [results, Try.results7, go_sem, r0, r1, r2, r3]) rfl ⟨rfl, Z.out.low⟩

set_option maxHeartbeats 2000000 in
theorem ahead28_any (a d p : Int) (i : Bool) (u : Int) (D : Ry) (x : Int) (w : World) (h : RyAhead p i u D x) : Calls Try.prog 9 #[.agg #[.int .i64 a, .int .i64 d, .int .i64 p, .bool i], .int .i64 u] w (RyWas w D x) := by
  unfold RyWas
  rcases h with ⟨rfl, rfl, rfl⟩ | ⟨rfl, h, rfl, rfl⟩ | ⟨rfl, h, rfl, rfl⟩
  · go_enter Try.func9, Try.ntmps9
    go_wp2_with fail
    exact bodyPost_ret (v := .tuple #[.agg #[.int .i64 u, .int .i64 0, .int .i64 p, .bool false], .int .i64 1]) (by simp [results, Try.results9, go_sem]) rfl ⟨rfl, new_alloc (new_alloc (new_refl w) _) _⟩
  · go_enter Try.func9, Try.ntmps9
    go_wp2_with fail
    exact bodyPost_ret (v := .tuple #[.agg #[.int .i64 u, .int .i64 0, .int .i64 p, .bool true], .int .i64 3]) (by simp [results, Try.results9, go_sem]) rfl ⟨rfl, new_alloc (new_alloc (new_refl w) _) _⟩
  · go_enter Try.func9, Try.ntmps9
    go_wp2_with fail
    exact bodyPost_ret (v := .tuple #[.agg #[.int .i64 u, .int .i64 0, .int .i64 p, .bool false], .int .i64 4]) (by simp [results, Try.results9, go_sem]) rfl ⟨rfl, new_alloc (new_alloc (new_refl w) _) _⟩

set_option maxHeartbeats 2000000 in
theorem repeated28_any (a d p : Int) (i : Bool) (s : Int) (D : Ry) (x : Int) (w : World) (h : RyRep a d p i s D x) : Calls Try.prog 10 #[.agg #[.int .i64 a, .int .i64 d, .int .i64 p, .bool i], .int .i64 s] w (RyWas w D x) := by
  unfold RyWas
  unfold RyRep ryD at h
  obtain ⟨k1, k2, k3, k4, k5⟩ : RnEnd 0 999 d (clampI d 0 999) := rnEnd_is (by decide)
  have bk : 0 ≤ clampI d 0 999 ∧ clampI d 0 999 ≤ 999 := clampP_bd _ (by decide)
  generalize clampI d 0 999 = K at *
  have wk : IntKind.i64.wrap (K + 1) = K + 1 := by rw [IntKind.wrap_i64]; omega
  have wk2 : wrap64 (K + 1) = K + 1 := by unfold wrap64; omega
  clear bk
  obtain ⟨M, hM⟩ : ∃ M, K + 1 = M := ⟨_, rfl⟩
  rw [hM] at wk wk2 h
  rcases h with ⟨h, rfl, rfl, rfl⟩ | ⟨h, rfl, rfl⟩ | ⟨h, rfl, rfl, rfl⟩
  · subst h
    have S := Lib.hid (ry_start w ⟨a, 3, p, false⟩)
    go_enter Try.func10, Try.ntmps10
    go_wp2_with (go_at_call 11; refine (awaiting28_any _ _ _ _ _ _).mono ?_; rintro e w1 ⟨rfl, B1⟩
                 have K1 := Lib.hid (S.out.kept B1)
                 have Z := Lib.hid (K1.out.setR ⟨a, 3, s, true⟩)
                 have r0 := K1.out.res.cell 0 rfl; have r1 := K1.out.res.cell 1 rfl; have r2 := K1.out.res.cell 2 rfl; have r3 := K1.out.res.cell 3 rfl; have q0 := K1.out.res.frozen 0; have q1 := K1.out.res.frozen 1; have q2 := K1.out.res.frozen 2; have q3 := K1.out.res.frozen 3)
    exact bodyPost_ret (v := .tuple #[.agg #[.int .i64 a, .int .i64 3, .int .i64 s, .bool true], .int .i64 2]) (by simp [results, Try.results10, go_sem, r0, r1, r2, r3]) rfl ⟨rfl, Z.out.low⟩
  · have h1 : (M == 3) = false := by simp [h]
    have h2 : (M != 3) = true := by simp [h]
    go_enter Try.func10, Try.ntmps10
    go_wp2_with fail
    exact bodyPost_ret (v := .tuple #[.agg #[.int .i64 a, .int .i64 M, .int .i64 p, .bool i], .int .i64 0]) (by simp [results, Try.results10, go_sem]) rfl ⟨rfl, new_alloc (new_alloc (new_refl w) _) _⟩
  · subst h
    go_enter Try.func10, Try.ntmps10
    go_wp2_with fail
    exact bodyPost_ret (v := .tuple #[.agg #[.int .i64 a, .int .i64 3, .int .i64 p, .bool true], .int .i64 0]) (by simp [results, Try.results10, go_sem]) rfl ⟨rfl, new_alloc (new_alloc (new_refl w) _) _⟩

set_option maxHeartbeats 2000000 in
theorem take28_any (a d p : Int) (i : Bool) (u s : Int) (D : Ry) (x : Int) (w : World) (h : RyIs ⟨a, d, p, i⟩ u s D x) : Calls Try.prog 5 #[.agg #[.int .i64 a, .int .i64 d, .int .i64 p, .bool i], .int .i64 u, .int .i64 s] w (RyWas w D x) := by
  unfold RyIs at h
  have S := Lib.hid (ry_start w ⟨a, d, p, i⟩)
  dsimp only at h
  rcases h with ⟨h, k⟩ | ⟨rfl, h2, k⟩ | ⟨rfl, h2, rfl, rfl⟩ | ⟨h, rfl, rfl⟩
  · have AH : Hid (∀ w, Calls Try.prog 9 #[.agg #[.int .i64 a, .int .i64 d, .int .i64 p, .bool i], .int .i64 u] w fun e w' => e = .returned (.tuple #[.agg #[.int .i64 D.a, .int .i64 D.d, .int .i64 D.p, .bool D.i], .int .i64 x]) ∧ Below w.heap.size w w') := Lib.hid (fun w => ahead28_any a d p i u D x w k)
    clear k
    unfold RyWas
    go_enter Try.func5, Try.ntmps5
    go_wp2_with (go_at_call 9; refine (AH.out _).mono ?_; rintro e w1 ⟨rfl, B1⟩
                 have K1 := Lib.hid (S.out.kept B1)
                 have Z := Lib.hid (K1.out.setR D)
                 have r0 := K1.out.res.cell 0 rfl; have r1 := K1.out.res.cell 1 rfl; have r2 := K1.out.res.cell 2 rfl; have r3 := K1.out.res.cell 3 rfl; have q0 := K1.out.res.frozen 0; have q1 := K1.out.res.frozen 1; have q2 := K1.out.res.frozen 2; have q3 := K1.out.res.frozen 3)
    exact bodyPost_ret (v := .tuple #[.agg #[.int .i64 D.a, .int .i64 D.d, .int .i64 D.p, .bool D.i], .int .i64 x]) (by simp [results, Try.results5, go_sem, r0, r1, r2, r3]) rfl ⟨rfl, Z.out.low⟩
  · have RP : Hid (∀ w, Calls Try.prog 10 #[.agg #[.int .i64 u, .int .i64 d, .int .i64 p, .bool i], .int .i64 s] w fun e w' => e = .returned (.tuple #[.agg #[.int .i64 D.a, .int .i64 D.d, .int .i64 D.p, .bool D.i], .int .i64 x]) ∧ Below w.heap.size w w') := Lib.hid (fun w => repeated28_any u d p i s D x w k)
    clear k
    unfold RyWas
    go_enter Try.func5, Try.ntmps5
    go_wp2_with (go_at_call 10; refine (RP.out _).mono ?_; rintro e w1 ⟨rfl, B1⟩
                 have K1 := Lib.hid (S.out.kept B1)
                 have Z := Lib.hid (K1.out.setR D)
                 have r0 := K1.out.res.cell 0 rfl; have r1 := K1.out.res.cell 1 rfl; have r2 := K1.out.res.cell 2 rfl; have r3 := K1.out.res.cell 3 rfl; have q0 := K1.out.res.frozen 0; have q1 := K1.out.res.frozen 1; have q2 := K1.out.res.frozen 2; have q3 := K1.out.res.frozen 3)
    exact bodyPost_ret (v := .tuple #[.agg #[.int .i64 D.a, .int .i64 D.d, .int .i64 D.p, .bool D.i], .int .i64 x]) (by simp [results, Try.results5, go_sem, r0, r1, r2, r3]) rfl ⟨rfl, Z.out.low⟩
  · unfold RyWas
    clear S
    go_enter Try.func5, Try.ntmps5
    go_wp2_with fail
    exact bodyPost_ret (v := .tuple #[.agg #[.int .i64 u, .int .i64 d, .int .i64 p, .bool i], .int .i64 0]) (by simp [results, Try.results5, go_sem]) rfl ⟨rfl, new_alloc (new_alloc (new_refl w) _) _⟩
  · have h1 : (u == a) = false := by simp; omega
    have h2 : decide (a < u) = false := decide_eq_false (by omega)
    have h3 : ¬ a < u := by omega
    unfold RyWas
    clear S h
    go_enter Try.func5, Try.ntmps5
    go_wp2_with fail
    exact bodyPost_ret (v := .tuple #[.agg #[.int .i64 a, .int .i64 d, .int .i64 p, .bool i], .int .i64 0]) (by simp [results, Try.results5, go_sem]) rfl ⟨rfl, new_alloc (new_alloc (new_refl w) _) _⟩
end Go.Proofs.Ytcgpjnddklhemaa
