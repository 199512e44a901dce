/- leatref19: Take. -/
import Derived.Test.YtfoonfmhamaclaaFbkE
import Derived.StillTailTactics
namespace Go.Proofs.Ytfoonfmhamaclaa
open Go.ChangeShapes Go.WideShapes Go.ChangeAt Go.RowKit
set_option linter.unusedVariables false

theorem refStep17_still (l x : Int) (w : World) : Calls Try.prog 28 #[.int .i64 l, .int .i64 x] w fun e w' => e = .returned (.int .i64 (stF l x)) ∧ w' = w := (refStep17_any l x w).mono fun _ _ h => ⟨h.1, h.2.symm⟩
/-- What the document's sender knows. -/
def rfV (s : Sn) : List Value := [.int .i64 s.mss, .int .i64 s.m, .int .i64 s.ba, .int .i64 s.f0, .int .i64 s.f1, .int .i64 s.f2, .int .u32 s.x, .bool (decide (0 < s.t))]
def zrV : List Value := [.int .i64 0, .int .i64 0, .int .i64 0, .int .i64 0, .int .i64 0, .int .i64 0, .int .u32 0, .bool false]
structure RfAt (w wr : World) (ls : List Value) (a : Ak) : Prop where
  st : Blk wr w.heap.size ls 28
  ack : Blk wr (w.heap.size + 1) (akV a) 31
  res : Blk wr (w.heap.size + 1 + 1) zrV 28
  low : Below w.heap.size w wr
theorem rf_start (w : World) (s : Sn) (a : Ak) : RfAt w (((w.alloc (.cells #[.int .i64 s.mss, .int .i64 s.m, .int .i64 s.ba, .int .i64 s.f0, .int .i64 s.f1, .int .i64 s.f2, .int .u32 s.x, .bool (decide (0 < s.t))] 28)).alloc (.cells #[.int .i64 a.u, .int .u32 a.s, .int .u8 a.c, .int .i64 a.t0, .int .i64 a.t1, .int .i64 a.t2] 31)).alloc (.cells #[.int .i64 0, .int .i64 0, .int .i64 0, .int .i64 0, .int .i64 0, .int .i64 0, .int .u32 0, .bool false] 28)) (rfV s) a :=
  ⟨((Blk.new w (rfV s) _).alloc _).alloc _, (Blk.newAt (alloc_size _ _) (akV a) _).alloc _, Blk.newAt (by rw [alloc_size, alloc_size]) zrV _, new_alloc (new_alloc (new_alloc (new_refl w) _) _) _⟩
theorem RfAt.kept {w wr w' : World} {ls : List Value} {a : Ak} (h : RfAt w wr ls a) (B : Below wr.heap.size wr w') : RfAt w w' ls a := ⟨h.st.kept B, h.ack.kept B, h.res.kept B, new_then h.low B⟩
theorem RfAt.set {w wr : World} {ls : List Value} {a : Ak} (h : RfAt w wr ls a) (i : Nat) (v : Value) : RfAt w (wr.setCell ⟨w.heap.size, i, none⟩ v) (ls.set i v) a :=
  ⟨h.st.set i v, h.ack.far (p := ⟨w.heap.size, i, none⟩) (show w.heap.size + 1 ≠ w.heap.size by omega) v, h.res.far (p := ⟨w.heap.size, i, none⟩) (show w.heap.size + 1 + 1 ≠ w.heap.size by omega) v, new_set h.low (p := ⟨w.heap.size, i, none⟩) (Nat.le_refl _) v⟩
/-- The result is stored. -/
def stR (wr : World) (g : Nat) (v0 v1 v2 v3 v4 v5 v6 v7 : Value) : World :=
  (((((((wr.setCell ⟨g, 0, none⟩ v0).setCell ⟨g, 1, none⟩ v1).setCell ⟨g, 2, none⟩ v2).setCell ⟨g, 3, none⟩ v3).setCell ⟨g, 4, none⟩ v4).setCell ⟨g, 5, none⟩ v5).setCell ⟨g, 6, none⟩ v6).setCell ⟨g, 7, none⟩ v7
theorem stR_blk {w wr : World} {ls : List Value} {a : Ak} (h : RfAt w wr ls a) (v0 v1 v2 v3 v4 v5 v6 v7 : Value) : Blk (stR wr (w.heap.size + 1 + 1) v0 v1 v2 v3 v4 v5 v6 v7) (w.heap.size + 1 + 1) [v0, v1, v2, v3, v4, v5, v6, v7] 28 :=
  (((((((h.res.set 0 v0).set 1 v1).set 2 v2).set 3 v3).set 4 v4).set 5 v5).set 6 v6).set 7 v7
theorem stR_low {w wr : World} {ls : List Value} {a : Ak} (h : RfAt w wr ls a) (v0 v1 v2 v3 v4 v5 v6 v7 : Value) : Below w.heap.size w (stR wr (w.heap.size + 1 + 1) v0 v1 v2 v3 v4 v5 v6 v7) := by
  have hp : w.heap.size ≤ w.heap.size + 1 + 1 := by omega
  exact new_set (new_set (new_set (new_set (new_set (new_set (new_set (new_set h.low (p := ⟨w.heap.size + 1 + 1, 0, none⟩) hp v0) (p := ⟨w.heap.size + 1 + 1, 1, none⟩) hp v1) (p := ⟨w.heap.size + 1 + 1, 2, none⟩) hp v2) (p := ⟨w.heap.size + 1 + 1, 3, none⟩) hp v3) (p := ⟨w.heap.size + 1 + 1, 4, none⟩) hp v4) (p := ⟨w.heap.size + 1 + 1, 5, none⟩) hp v5) (p := ⟨w.heap.size + 1 + 1, 6, none⟩) hp v6) (p := ⟨w.heap.size + 1 + 1, 7, none⟩) hp v7
def rfA (s : Sn) : Value := .agg #[.int .i64 s.mss, .int .i64 s.m, .int .i64 s.ba, .int .i64 s.f0, .int .i64 s.f1, .int .i64 s.f2, .int .u32 s.x, .bool (decide (0 < s.t))]
def RfTo (w : World) (s' : Sn) (r er : Int) (e : Ending) (w' : World) : Prop :=
  e = .returned (.tuple #[rfA s', .int .i64 r, .int .i64 er]) ∧ Below w.heap.size w w'
theorem RfAt.drew {w wr : World} {ls : List Value} {a : Ak} (h : RfAt w wr ls a) : RfAt w wr.drew ls a := ⟨h.st.drew, h.ack.drew, h.res.drew, new_drew h.low⟩
def rfB (s : Sn) (any : Bool) : List Value := [.int .i64 s.mss, .int .i64 s.m, .int .i64 s.ba, .int .i64 s.f0, .int .i64 s.f1, .int .i64 s.f2, .int .u32 s.x, .bool any]
def Rf1 (w : World) (s : Sn) (a : Ak) (any : Bool) (gh : Nat) (v : Value) (wr : World) : Prop := ∃ k : Nat, v = .int .i64 (k : Int) ∧ 3 - k = gh ∧ k ≤ 3 ∧ wrP a k = false ∧ RfAt w wr (rfB s any) a
def rfC (s : Sn) (any : Bool) (N g0 g1 g2 : Int) : Nat → List Value
  | 0 => [.int .i64 s.mss, .int .i64 N, .int .i64 s.ba, .int .i64 s.f0, .int .i64 s.f1, .int .i64 s.f2, .int .u32 s.x, .bool any]
  | 1 => [.int .i64 s.mss, .int .i64 N, .int .i64 s.ba, .int .i64 (s.f0 + g0), .int .i64 s.f1, .int .i64 s.f2, .int .u32 s.x, .bool any]
  | 2 => [.int .i64 s.mss, .int .i64 N, .int .i64 s.ba, .int .i64 (s.f0 + g0), .int .i64 (s.f1 + g1), .int .i64 s.f2, .int .u32 s.x, .bool any]
  | _ => [.int .i64 s.mss, .int .i64 N, .int .i64 s.ba, .int .i64 (s.f0 + g0), .int .i64 (s.f1 + g1), .int .i64 (s.f2 + g2), .int .u32 s.x, .bool any]
def Rf3 (w : World) (s : Sn) (a : Ak) (any : Bool) (N g0 g1 g2 : Int) (gh : Nat) (v : Value) (wr : World) : Prop := ∃ k : Nat, v = .int .i64 (k : Int) ∧ 3 - k = gh ∧ k ≤ 3 ∧ RfAt w wr (rfC s any N g0 g1 g2 k) a
def Rf2 (w : World) (s : Sn) (a : Ak) (any : Bool) (gh : Nat) (v : Value) (wr : World) : Prop := ∃ k : Nat, v = .int .i64 (k : Int) ∧ 3 - k = gh ∧ k ≤ 3 ∧ frP (frF s.f0 a.t0) (frF s.f1 a.t1) (frF s.f2 a.t2) k = true ∧ RfAt w wr (rfB s any) a
set_option maxHeartbeats 4000000 in
theorem rfTake_ace (s : Sn) (a : Ak) (w : World) (ha : OkA a) (hc : 7 < a.c) :
    Calls Try.prog 9 #[.agg #[.int .i64 s.mss, .int .i64 s.m, .int .i64 s.ba, .int .i64 s.f0, .int .i64 s.f1, .int .i64 s.f2, .int .u32 s.x, .bool (decide (0 < s.t))], .agg #[.int .i64 a.u, .int .u32 a.s, .int .u8 a.c, .int .i64 a.t0, .int .i64 a.t1, .int .i64 a.t2]] w (RfTo w s 0 2) := by
  have R0 := rf_start w s a
  have hcc := ha.c
  clear ha
  unfold RfTo rfA
  obtain ⟨any, han⟩ : ∃ any, decide (0 < s.t) = any := ⟨_, rfl⟩
  unfold rfV at R0
  rw [han] at R0 ⊢
  have R := Lib.hid R0
  clear R0 han
  go_enter Try.func9, Try.ntmps9
  go_upto_region 1 with (fail)
  generalize ((w.alloc (.cells #[.int .i64 s.mss, .int .i64 s.m, .int .i64 s.ba, .int .i64 s.f0, .int .i64 s.f1, .int .i64 s.f2, .int .u32 s.x, .bool any] 28)).alloc (.cells #[.int .i64 a.u, .int .u32 a.s, .int .u8 a.c, .int .i64 a.t0, .int .i64 a.t1, .int .i64 a.t2] 31)).alloc (.cells #[.int .i64 0, .int .i64 0, .int .i64 0, .int .i64 0, .int .i64 0, .int .i64 0, .int .u32 0, .bool false] 28) = W at *
  have c0 := R.out.ack.cell 2 rfl
  have s0 := R.out.st.cell 0 rfl
  have s1 := R.out.st.cell 1 rfl
  have s2 := R.out.st.cell 2 rfl
  have s3 := R.out.st.cell 3 rfl
  have s4 := R.out.st.cell 4 rfl
  have s5 := R.out.st.cell 5 rfl
  have s6 := R.out.st.cell 6 rfl
  have s7 := R.out.st.cell 7 rfl
  have r0 := R.out.res.cell 0 rfl
  have r1 := R.out.res.cell 1 rfl
  have r2 := R.out.res.cell 2 rfl
  have r3 := R.out.res.cell 3 rfl
  have r4 := R.out.res.cell 4 rfl
  have r5 := R.out.res.cell 5 rfl
  have r6 := R.out.res.cell 6 rfl
  have r7 := R.out.res.cell 7 rfl
  have f0 := R.out.res.frozen 0
  have f1 := R.out.res.frozen 1
  have f2 := R.out.res.frozen 2
  have f3 := R.out.res.frozen 3
  have f4 := R.out.res.frozen 4
  have f5 := R.out.res.frozen 5
  have f6 := R.out.res.frozen 6
  have f7 := R.out.res.frozen 7
  go_wp2_with fail
  clear s0 s1 s2 s3 s4 s5 s6 s7 r0 r1 r2 r3 r4 r5 r6 r7 f0 f1 f2 f3 f4 f5 f6 f7
  have Z := stR_blk R.out (.int .i64 s.mss) (.int .i64 s.m) (.int .i64 s.ba) (.int .i64 s.f0) (.int .i64 s.f1) (.int .i64 s.f2) (.int .u32 s.x) (.bool any)
  have r0 := Z.cell 0 rfl
  have r1 := Z.cell 1 rfl
  have r2 := Z.cell 2 rfl
  have r3 := Z.cell 3 rfl
  have r4 := Z.cell 4 rfl
  have r5 := Z.cell 5 rfl
  have r6 := Z.cell 6 rfl
  have r7 := Z.cell 7 rfl
  have L := stR_low R.out (.int .i64 s.mss) (.int .i64 s.m) (.int .i64 s.ba) (.int .i64 s.f0) (.int .i64 s.f1) (.int .i64 s.f2) (.int .u32 s.x) (.bool any)
  unfold stR at *
  exact bodyPost_ret (v := .tuple #[.agg #[.int .i64 s.mss, .int .i64 s.m, .int .i64 s.ba, .int .i64 s.f0, .int .i64 s.f1, .int .i64 s.f2, .int .u32 s.x, .bool any], .int .i64 0, .int .i64 2]) (by simp [results, Try.results9, go_sem, r0, r1, r2, r3, r4, r5, r6, r7]) rfl ⟨rfl, L⟩
-- @@ take (by wip/tools/gen/genfbr.py)
set_option maxRecDepth 100000 in
set_option maxHeartbeats 32000000 in
theorem rfTake_rest (n : Nat) (s : Sn) (a : Ak) (w : World) (hs : OkS n s) (ha : OkA a) (hc : ¬ 7 < a.c) :
    Calls Try.prog 9 #[.agg #[.int .i64 s.mss, .int .i64 s.m, .int .i64 s.ba, .int .i64 s.f0, .int .i64 s.f1, .int .i64 s.f2, .int .u32 s.x, .bool (decide (0 < s.t))], .agg #[.int .i64 a.u, .int .u32 a.s, .int .u8 a.c, .int .i64 a.t0, .int .i64 a.t1, .int .i64 a.t2]] w (RfTo w (tkK s a) ((tkK s a).m - s.m) (erK s a)) := by
  have hcc := ha.c
  have W0 := Lib.hid (wr_way a.t0)
  have W1 := Lib.hid (wr_way a.t1)
  have W2 := Lib.hid (wr_way a.t2)
  have HWR : Hid (wrK a = true → tkK s a = s) := Lib.hid (fun h => by unfold tkK; rw [if_pos h])
  have HWE : Hid (wrK a = true → erK s a = 2) := Lib.hid (fun h => by unfold erK; rw [if_pos h])
  have HFR : Hid (wrK a = false → frK s a = false → tkK s a = s) := Lib.hid (fun h h2 => by unfold tkK; rw [if_neg (by simp [h]), if_pos h2])
  have HFE : Hid (wrK a = false → frK s a = false → erK s a = 11) := Lib.hid (fun h h2 => by unfold erK; rw [if_neg (by simp [h]), if_pos h2])
  obtain ⟨any, han⟩ : ∃ any, decide (0 < s.t) = any := ⟨_, rfl⟩
  have HAN := Lib.hid han
  have HS := Lib.hid hs
  have HA := Lib.hid ha
  have R0 := rf_start w s a
  unfold rfV at R0
  rw [han] at R0 ⊢
  have R := Lib.hid R0
  clear R0 han hs ha
  go_enter Try.func9, Try.ntmps9
  go_upto_region 1 with (fail)
  generalize ((w.alloc (.cells #[.int .i64 s.mss, .int .i64 s.m, .int .i64 s.ba, .int .i64 s.f0, .int .i64 s.f1, .int .i64 s.f2, .int .u32 s.x, .bool any] 28)).alloc (.cells #[.int .i64 a.u, .int .u32 a.s, .int .u8 a.c, .int .i64 a.t0, .int .i64 a.t1, .int .i64 a.t2] 31)).alloc (.cells #[.int .i64 0, .int .i64 0, .int .i64 0, .int .i64 0, .int .i64 0, .int .i64 0, .int .u32 0, .bool false] 28) = W at *
  have c2 := R.out.ack.cell 2 rfl
  go_wp2_with fail
  go_loopg [7] 3 (fun gh v wr => Rf1 w s a any gh v wr)
  case atStart => exact ⟨0, rfl, rfl, by omega, rfl, R.out⟩
  case round =>
    clear R c2
    obtain ⟨k, rfl, rfl, hk, hf, C⟩ := hrel
    have HF := Lib.hid hf
    have HC := Lib.hid C
    have c3 := C.ack.cell 3 rfl
    have c4 := C.ack.cell 4 rfl
    have c5 := C.ack.cell 5 rfl
    clear C hf
    obtain rfl | rfl | rfl | rfl : k = 0 ∨ k = 1 ∨ k = 2 ∨ k = 3 := by omega
    · rcases W0.out with ⟨q1, q2⟩ | ⟨q1, q2, q3⟩ | ⟨q1, q2, q3⟩
      · have HQ := Lib.hid q2
        clear q2
        have s0 := HC.out.st.cell 0 rfl
        have s1 := HC.out.st.cell 1 rfl
        have s2 := HC.out.st.cell 2 rfl
        have s3 := HC.out.st.cell 3 rfl
        have s4 := HC.out.st.cell 4 rfl
        have s5 := HC.out.st.cell 5 rfl
        have s6 := HC.out.st.cell 6 rfl
        have s7 := HC.out.st.cell 7 rfl
        have r0 := HC.out.res.cell 0 rfl
        have r1 := HC.out.res.cell 1 rfl
        have r2 := HC.out.res.cell 2 rfl
        have r3 := HC.out.res.cell 3 rfl
        have r4 := HC.out.res.cell 4 rfl
        have r5 := HC.out.res.cell 5 rfl
        have r6 := HC.out.res.cell 6 rfl
        have r7 := HC.out.res.cell 7 rfl
        have f0 := HC.out.res.frozen 0
        have f1 := HC.out.res.frozen 1
        have f2 := HC.out.res.frozen 2
        have f3 := HC.out.res.frozen 3
        have f4 := HC.out.res.frozen 4
        have f5 := HC.out.res.frozen 5
        have f6 := HC.out.res.frozen 6
        have f7 := HC.out.res.frozen 7
        go_wp2_with fail
        clear s0 s1 s2 s3 s4 s5 s6 s7 r0 r1 r2 r3 r4 r5 r6 r7 f0 f1 f2 f3 f4 f5 f6 f7
        have Z := stR_blk HC.out (.int .i64 s.mss) (.int .i64 s.m) (.int .i64 s.ba) (.int .i64 s.f0) (.int .i64 s.f1) (.int .i64 s.f2) (.int .u32 s.x) (.bool any)
        have r0 := Z.cell 0 rfl
        have r1 := Z.cell 1 rfl
        have r2 := Z.cell 2 rfl
        have r3 := Z.cell 3 rfl
        have r4 := Z.cell 4 rfl
        have r5 := Z.cell 5 rfl
        have r6 := Z.cell 6 rfl
        have r7 := Z.cell 7 rfl
        have L := stR_low HC.out (.int .i64 s.mss) (.int .i64 s.m) (.int .i64 s.ba) (.int .i64 s.f0) (.int .i64 s.f1) (.int .i64 s.f2) (.int .u32 s.x) (.bool any)
        unfold stR at *
        exact bodyPost_ret (v := .tuple #[.agg #[.int .i64 s.mss, .int .i64 s.m, .int .i64 s.ba, .int .i64 s.f0, .int .i64 s.f1, .int .i64 s.f2, .int .u32 s.x, .bool any], .int .i64 0, .int .i64 2]) (by simp [results, Try.results9, go_sem, r0, r1, r2, r3, r4, r5, r6, r7]) rfl (by unfold RfTo rfA; exact ⟨by rw [HWR.out (by have b := HQ.out; simp [wrK, b]), HWE.out (by have b := HQ.out; simp [wrK, b]), Int.sub_self, HAN.out], L⟩)
      · have HQ := Lib.hid q3
        clear q3
        have s0 := HC.out.st.cell 0 rfl
        have s1 := HC.out.st.cell 1 rfl
        have s2 := HC.out.st.cell 2 rfl
        have s3 := HC.out.st.cell 3 rfl
        have s4 := HC.out.st.cell 4 rfl
        have s5 := HC.out.st.cell 5 rfl
        have s6 := HC.out.st.cell 6 rfl
        have s7 := HC.out.st.cell 7 rfl
        have r0 := HC.out.res.cell 0 rfl
        have r1 := HC.out.res.cell 1 rfl
        have r2 := HC.out.res.cell 2 rfl
        have r3 := HC.out.res.cell 3 rfl
        have r4 := HC.out.res.cell 4 rfl
        have r5 := HC.out.res.cell 5 rfl
        have r6 := HC.out.res.cell 6 rfl
        have r7 := HC.out.res.cell 7 rfl
        have f0 := HC.out.res.frozen 0
        have f1 := HC.out.res.frozen 1
        have f2 := HC.out.res.frozen 2
        have f3 := HC.out.res.frozen 3
        have f4 := HC.out.res.frozen 4
        have f5 := HC.out.res.frozen 5
        have f6 := HC.out.res.frozen 6
        have f7 := HC.out.res.frozen 7
        go_wp2_with fail
        clear s0 s1 s2 s3 s4 s5 s6 s7 r0 r1 r2 r3 r4 r5 r6 r7 f0 f1 f2 f3 f4 f5 f6 f7
        have Z := stR_blk HC.out (.int .i64 s.mss) (.int .i64 s.m) (.int .i64 s.ba) (.int .i64 s.f0) (.int .i64 s.f1) (.int .i64 s.f2) (.int .u32 s.x) (.bool any)
        have r0 := Z.cell 0 rfl
        have r1 := Z.cell 1 rfl
        have r2 := Z.cell 2 rfl
        have r3 := Z.cell 3 rfl
        have r4 := Z.cell 4 rfl
        have r5 := Z.cell 5 rfl
        have r6 := Z.cell 6 rfl
        have r7 := Z.cell 7 rfl
        have L := stR_low HC.out (.int .i64 s.mss) (.int .i64 s.m) (.int .i64 s.ba) (.int .i64 s.f0) (.int .i64 s.f1) (.int .i64 s.f2) (.int .u32 s.x) (.bool any)
        unfold stR at *
        exact bodyPost_ret (v := .tuple #[.agg #[.int .i64 s.mss, .int .i64 s.m, .int .i64 s.ba, .int .i64 s.f0, .int .i64 s.f1, .int .i64 s.f2, .int .u32 s.x, .bool any], .int .i64 0, .int .i64 2]) (by simp [results, Try.results9, go_sem, r0, r1, r2, r3, r4, r5, r6, r7]) rfl (by unfold RfTo rfA; exact ⟨by rw [HWR.out (by have b := HQ.out; simp [wrK, b]), HWE.out (by have b := HQ.out; simp [wrK, b]), Int.sub_self, HAN.out], L⟩)
      · have HQ := Lib.hid q3
        clear q3
        go_wp2_with fail
        go_roundg (3 - (0 + 1))
        case measure => omega
        case rel => exact ⟨0 + 1, by go_num, rfl, by omega, by have a1 := HF.out; have b := HQ.out; simp_all [wrP], HC.out⟩
    · rcases W1.out with ⟨q1, q2⟩ | ⟨q1, q2, q3⟩ | ⟨q1, q2, q3⟩
      · have HQ := Lib.hid q2
        clear q2
        have s0 := HC.out.st.cell 0 rfl
        have s1 := HC.out.st.cell 1 rfl
        have s2 := HC.out.st.cell 2 rfl
        have s3 := HC.out.st.cell 3 rfl
        have s4 := HC.out.st.cell 4 rfl
        have s5 := HC.out.st.cell 5 rfl
        have s6 := HC.out.st.cell 6 rfl
        have s7 := HC.out.st.cell 7 rfl
        have r0 := HC.out.res.cell 0 rfl
        have r1 := HC.out.res.cell 1 rfl
        have r2 := HC.out.res.cell 2 rfl
        have r3 := HC.out.res.cell 3 rfl
        have r4 := HC.out.res.cell 4 rfl
        have r5 := HC.out.res.cell 5 rfl
        have r6 := HC.out.res.cell 6 rfl
        have r7 := HC.out.res.cell 7 rfl
        have f0 := HC.out.res.frozen 0
        have f1 := HC.out.res.frozen 1
        have f2 := HC.out.res.frozen 2
        have f3 := HC.out.res.frozen 3
        have f4 := HC.out.res.frozen 4
        have f5 := HC.out.res.frozen 5
        have f6 := HC.out.res.frozen 6
        have f7 := HC.out.res.frozen 7
        go_wp2_with fail
        clear s0 s1 s2 s3 s4 s5 s6 s7 r0 r1 r2 r3 r4 r5 r6 r7 f0 f1 f2 f3 f4 f5 f6 f7
        have Z := stR_blk HC.out (.int .i64 s.mss) (.int .i64 s.m) (.int .i64 s.ba) (.int .i64 s.f0) (.int .i64 s.f1) (.int .i64 s.f2) (.int .u32 s.x) (.bool any)
        have r0 := Z.cell 0 rfl
        have r1 := Z.cell 1 rfl
        have r2 := Z.cell 2 rfl
        have r3 := Z.cell 3 rfl
        have r4 := Z.cell 4 rfl
        have r5 := Z.cell 5 rfl
        have r6 := Z.cell 6 rfl
        have r7 := Z.cell 7 rfl
        have L := stR_low HC.out (.int .i64 s.mss) (.int .i64 s.m) (.int .i64 s.ba) (.int .i64 s.f0) (.int .i64 s.f1) (.int .i64 s.f2) (.int .u32 s.x) (.bool any)
        unfold stR at *
        exact bodyPost_ret (v := .tuple #[.agg #[.int .i64 s.mss, .int .i64 s.m, .int .i64 s.ba, .int .i64 s.f0, .int .i64 s.f1, .int .i64 s.f2, .int .u32 s.x, .bool any], .int .i64 0, .int .i64 2]) (by simp [results, Try.results9, go_sem, r0, r1, r2, r3, r4, r5, r6, r7]) rfl (by unfold RfTo rfA; exact ⟨by rw [HWR.out (by have b := HQ.out; simp [wrK, b]), HWE.out (by have b := HQ.out; simp [wrK, b]), Int.sub_self, HAN.out], L⟩)
      · have HQ := Lib.hid q3
        clear q3
        have s0 := HC.out.st.cell 0 rfl
        have s1 := HC.out.st.cell 1 rfl
        have s2 := HC.out.st.cell 2 rfl
        have s3 := HC.out.st.cell 3 rfl
        have s4 := HC.out.st.cell 4 rfl
        have s5 := HC.out.st.cell 5 rfl
        have s6 := HC.out.st.cell 6 rfl
        have s7 := HC.out.st.cell 7 rfl
        have r0 := HC.out.res.cell 0 rfl
        have r1 := HC.out.res.cell 1 rfl
        have r2 := HC.out.res.cell 2 rfl
        have r3 := HC.out.res.cell 3 rfl
        have r4 := HC.out.res.cell 4 rfl
        have r5 := HC.out.res.cell 5 rfl
        have r6 := HC.out.res.cell 6 rfl
        have r7 := HC.out.res.cell 7 rfl
        have f0 := HC.out.res.frozen 0
        have f1 := HC.out.res.frozen 1
        have f2 := HC.out.res.frozen 2
        have f3 := HC.out.res.frozen 3
        have f4 := HC.out.res.frozen 4
        have f5 := HC.out.res.frozen 5
        have f6 := HC.out.res.frozen 6
        have f7 := HC.out.res.frozen 7
        go_wp2_with fail
        clear s0 s1 s2 s3 s4 s5 s6 s7 r0 r1 r2 r3 r4 r5 r6 r7 f0 f1 f2 f3 f4 f5 f6 f7
        have Z := stR_blk HC.out (.int .i64 s.mss) (.int .i64 s.m) (.int .i64 s.ba) (.int .i64 s.f0) (.int .i64 s.f1) (.int .i64 s.f2) (.int .u32 s.x) (.bool any)
        have r0 := Z.cell 0 rfl
        have r1 := Z.cell 1 rfl
        have r2 := Z.cell 2 rfl
        have r3 := Z.cell 3 rfl
        have r4 := Z.cell 4 rfl
        have r5 := Z.cell 5 rfl
        have r6 := Z.cell 6 rfl
        have r7 := Z.cell 7 rfl
        have L := stR_low HC.out (.int .i64 s.mss) (.int .i64 s.m) (.int .i64 s.ba) (.int .i64 s.f0) (.int .i64 s.f1) (.int .i64 s.f2) (.int .u32 s.x) (.bool any)
        unfold stR at *
        exact bodyPost_ret (v := .tuple #[.agg #[.int .i64 s.mss, .int .i64 s.m, .int .i64 s.ba, .int .i64 s.f0, .int .i64 s.f1, .int .i64 s.f2, .int .u32 s.x, .bool any], .int .i64 0, .int .i64 2]) (by simp [results, Try.results9, go_sem, r0, r1, r2, r3, r4, r5, r6, r7]) rfl (by unfold RfTo rfA; exact ⟨by rw [HWR.out (by have b := HQ.out; simp [wrK, b]), HWE.out (by have b := HQ.out; simp [wrK, b]), Int.sub_self, HAN.out], L⟩)
      · have HQ := Lib.hid q3
        clear q3
        go_wp2_with fail
        go_roundg (3 - (1 + 1))
        case measure => omega
        case rel => exact ⟨1 + 1, by go_num, rfl, by omega, by have a1 := HF.out; have b := HQ.out; simp_all [wrP], HC.out⟩
    · rcases W2.out with ⟨q1, q2⟩ | ⟨q1, q2, q3⟩ | ⟨q1, q2, q3⟩
      · have HQ := Lib.hid q2
        clear q2
        have s0 := HC.out.st.cell 0 rfl
        have s1 := HC.out.st.cell 1 rfl
        have s2 := HC.out.st.cell 2 rfl
        have s3 := HC.out.st.cell 3 rfl
        have s4 := HC.out.st.cell 4 rfl
        have s5 := HC.out.st.cell 5 rfl
        have s6 := HC.out.st.cell 6 rfl
        have s7 := HC.out.st.cell 7 rfl
        have r0 := HC.out.res.cell 0 rfl
        have r1 := HC.out.res.cell 1 rfl
        have r2 := HC.out.res.cell 2 rfl
        have r3 := HC.out.res.cell 3 rfl
        have r4 := HC.out.res.cell 4 rfl
        have r5 := HC.out.res.cell 5 rfl
        have r6 := HC.out.res.cell 6 rfl
        have r7 := HC.out.res.cell 7 rfl
        have f0 := HC.out.res.frozen 0
        have f1 := HC.out.res.frozen 1
        have f2 := HC.out.res.frozen 2
        have f3 := HC.out.res.frozen 3
        have f4 := HC.out.res.frozen 4
        have f5 := HC.out.res.frozen 5
        have f6 := HC.out.res.frozen 6
        have f7 := HC.out.res.frozen 7
        go_wp2_with fail
        clear s0 s1 s2 s3 s4 s5 s6 s7 r0 r1 r2 r3 r4 r5 r6 r7 f0 f1 f2 f3 f4 f5 f6 f7
        have Z := stR_blk HC.out (.int .i64 s.mss) (.int .i64 s.m) (.int .i64 s.ba) (.int .i64 s.f0) (.int .i64 s.f1) (.int .i64 s.f2) (.int .u32 s.x) (.bool any)
        have r0 := Z.cell 0 rfl
        have r1 := Z.cell 1 rfl
        have r2 := Z.cell 2 rfl
        have r3 := Z.cell 3 rfl
        have r4 := Z.cell 4 rfl
        have r5 := Z.cell 5 rfl
        have r6 := Z.cell 6 rfl
        have r7 := Z.cell 7 rfl
        have L := stR_low HC.out (.int .i64 s.mss) (.int .i64 s.m) (.int .i64 s.ba) (.int .i64 s.f0) (.int .i64 s.f1) (.int .i64 s.f2) (.int .u32 s.x) (.bool any)
        unfold stR at *
        exact bodyPost_ret (v := .tuple #[.agg #[.int .i64 s.mss, .int .i64 s.m, .int .i64 s.ba, .int .i64 s.f0, .int .i64 s.f1, .int .i64 s.f2, .int .u32 s.x, .bool any], .int .i64 0, .int .i64 2]) (by simp [results, Try.results9, go_sem, r0, r1, r2, r3, r4, r5, r6, r7]) rfl (by unfold RfTo rfA; exact ⟨by rw [HWR.out (by have b := HQ.out; simp [wrK, b]), HWE.out (by have b := HQ.out; simp [wrK, b]), Int.sub_self, HAN.out], L⟩)
      · have HQ := Lib.hid q3
        clear q3
        have s0 := HC.out.st.cell 0 rfl
        have s1 := HC.out.st.cell 1 rfl
        have s2 := HC.out.st.cell 2 rfl
        have s3 := HC.out.st.cell 3 rfl
        have s4 := HC.out.st.cell 4 rfl
        have s5 := HC.out.st.cell 5 rfl
        have s6 := HC.out.st.cell 6 rfl
        have s7 := HC.out.st.cell 7 rfl
        have r0 := HC.out.res.cell 0 rfl
        have r1 := HC.out.res.cell 1 rfl
        have r2 := HC.out.res.cell 2 rfl
        have r3 := HC.out.res.cell 3 rfl
        have r4 := HC.out.res.cell 4 rfl
        have r5 := HC.out.res.cell 5 rfl
        have r6 := HC.out.res.cell 6 rfl
        have r7 := HC.out.res.cell 7 rfl
        have f0 := HC.out.res.frozen 0
        have f1 := HC.out.res.frozen 1
        have f2 := HC.out.res.frozen 2
        have f3 := HC.out.res.frozen 3
        have f4 := HC.out.res.frozen 4
        have f5 := HC.out.res.frozen 5
        have f6 := HC.out.res.frozen 6
        have f7 := HC.out.res.frozen 7
        go_wp2_with fail
        clear s0 s1 s2 s3 s4 s5 s6 s7 r0 r1 r2 r3 r4 r5 r6 r7 f0 f1 f2 f3 f4 f5 f6 f7
        have Z := stR_blk HC.out (.int .i64 s.mss) (.int .i64 s.m) (.int .i64 s.ba) (.int .i64 s.f0) (.int .i64 s.f1) (.int .i64 s.f2) (.int .u32 s.x) (.bool any)
        have r0 := Z.cell 0 rfl
        have r1 := Z.cell 1 rfl
        have r2 := Z.cell 2 rfl
        have r3 := Z.cell 3 rfl
        have r4 := Z.cell 4 rfl
        have r5 := Z.cell 5 rfl
        have r6 := Z.cell 6 rfl
        have r7 := Z.cell 7 rfl
        have L := stR_low HC.out (.int .i64 s.mss) (.int .i64 s.m) (.int .i64 s.ba) (.int .i64 s.f0) (.int .i64 s.f1) (.int .i64 s.f2) (.int .u32 s.x) (.bool any)
        unfold stR at *
        exact bodyPost_ret (v := .tuple #[.agg #[.int .i64 s.mss, .int .i64 s.m, .int .i64 s.ba, .int .i64 s.f0, .int .i64 s.f1, .int .i64 s.f2, .int .u32 s.x, .bool any], .int .i64 0, .int .i64 2]) (by simp [results, Try.results9, go_sem, r0, r1, r2, r3, r4, r5, r6, r7]) rfl (by unfold RfTo rfA; exact ⟨by rw [HWR.out (by have b := HQ.out; simp [wrK, b]), HWE.out (by have b := HQ.out; simp [wrK, b]), Int.sub_self, HAN.out], L⟩)
      · have HQ := Lib.hid q3
        clear q3
        go_wp2_with fail
        go_roundg (3 - (2 + 1))
        case measure => omega
        case rel => exact ⟨2 + 1, by go_num, rfl, by omega, by have a1 := HF.out; have b := HQ.out; simp_all [wrP], HC.out⟩
    · have HNW : Hid (wrK a = false) := Lib.hid (by have h := HF.out; unfold wrK; simp [wrP] at h; simp [h]; omega)
      have HT1 : Hid (-1 ≤ a.t1) := Lib.hid (by have h := HF.out; simp [wrP] at h; have h1 := W1.out; rcases h1 with ⟨_, q⟩ | ⟨_, _, q⟩ | ⟨q, _⟩ <;> simp_all)
      clear c3 c4 c5 HF W0 W1 W2 HWR HWE
      go_wp2_with fail
      go_loopg [8] 3 (fun gh v wr => Rf2 w s a any gh v wr)
      case atStart => exact ⟨0, rfl, rfl, by omega, rfl, HC.out⟩
      case round =>
        clear HC
        obtain ⟨k, rfl, rfl, hk, hf, C⟩ := hrel
        have HF := Lib.hid hf
        have HC := Lib.hid C
        clear C hf
        obtain rfl | rfl | rfl | rfl : k = 0 ∨ k = 1 ∨ k = 2 ∨ k = 3 := by omega
        · by_cases q : toF s.f0 a.t0 < 0
          · have HQ : Hid (frF s.f0 a.t0 = false) := Lib.hid (by unfold frF; simp; omega)
            go_upto_region 11 with (fail)
            have p0 := cell_by (HC.out.st.cell 3 rfl)
            have p1 := cell_by (HC.out.ack.cell 3 rfl)
            refine wp_region_quiet_below (by kernel_rfl) (by kernel_rfl) ?_
            repeat (go_big_quiet_step (first | (go_at_call 24; refine calls_by_same (refDiff17_any _ _ _))))
            refine wpQuiet_nil ?_
            intro _ hw'
            obtain ⟨⟨wq, Bq⟩, hw''⟩ := hw'
            subst hw''
            have HCq := Lib.hid (HC.out.kept Bq)
            clear p0 p1
            have s0 := HCq.out.st.cell 0 rfl
            have s1 := HCq.out.st.cell 1 rfl
            have s2 := HCq.out.st.cell 2 rfl
            have s3 := HCq.out.st.cell 3 rfl
            have s4 := HCq.out.st.cell 4 rfl
            have s5 := HCq.out.st.cell 5 rfl
            have s6 := HCq.out.st.cell 6 rfl
            have s7 := HCq.out.st.cell 7 rfl
            have r0 := HCq.out.res.cell 0 rfl
            have r1 := HCq.out.res.cell 1 rfl
            have r2 := HCq.out.res.cell 2 rfl
            have r3 := HCq.out.res.cell 3 rfl
            have r4 := HCq.out.res.cell 4 rfl
            have r5 := HCq.out.res.cell 5 rfl
            have r6 := HCq.out.res.cell 6 rfl
            have r7 := HCq.out.res.cell 7 rfl
            have f0 := HCq.out.res.frozen 0
            have f1 := HCq.out.res.frozen 1
            have f2 := HCq.out.res.frozen 2
            have f3 := HCq.out.res.frozen 3
            have f4 := HCq.out.res.frozen 4
            have f5 := HCq.out.res.frozen 5
            have f6 := HCq.out.res.frozen 6
            have f7 := HCq.out.res.frozen 7
            go_wp2_with fail
            clear s0 s1 s2 s3 s4 s5 s6 s7 r0 r1 r2 r3 r4 r5 r6 r7 f0 f1 f2 f3 f4 f5 f6 f7
            have Z := stR_blk HCq.out (.int .i64 s.mss) (.int .i64 s.m) (.int .i64 s.ba) (.int .i64 s.f0) (.int .i64 s.f1) (.int .i64 s.f2) (.int .u32 s.x) (.bool any)
            have r0 := Z.cell 0 rfl
            have r1 := Z.cell 1 rfl
            have r2 := Z.cell 2 rfl
            have r3 := Z.cell 3 rfl
            have r4 := Z.cell 4 rfl
            have r5 := Z.cell 5 rfl
            have r6 := Z.cell 6 rfl
            have r7 := Z.cell 7 rfl
            have L := stR_low HCq.out (.int .i64 s.mss) (.int .i64 s.m) (.int .i64 s.ba) (.int .i64 s.f0) (.int .i64 s.f1) (.int .i64 s.f2) (.int .u32 s.x) (.bool any)
            unfold stR at *
            exact bodyPost_ret (v := .tuple #[.agg #[.int .i64 s.mss, .int .i64 s.m, .int .i64 s.ba, .int .i64 s.f0, .int .i64 s.f1, .int .i64 s.f2, .int .u32 s.x, .bool any], .int .i64 0, .int .i64 11]) (by simp [results, Try.results9, go_sem, r0, r1, r2, r3, r4, r5, r6, r7]) rfl (by unfold RfTo rfA; exact ⟨by rw [HFR.out HNW.out (by have b := HQ.out; simp [frK, b]), HFE.out HNW.out (by have b := HQ.out; simp [frK, b]), Int.sub_self, HAN.out], L⟩)
          · have HQ : Hid (frF s.f0 a.t0 = true) := Lib.hid (by unfold frF; simp; omega)
            go_upto_region 11 with (fail)
            have p0 := cell_by (HC.out.st.cell 3 rfl)
            have p1 := cell_by (HC.out.ack.cell 3 rfl)
            refine wp_region_quiet_below (by kernel_rfl) (by kernel_rfl) ?_
            repeat (go_big_quiet_step (first | (go_at_call 24; refine calls_by_same (refDiff17_any _ _ _))))
            refine wpQuiet_nil ?_
            intro _ hw'
            obtain ⟨⟨wq, Bq⟩, hw''⟩ := hw'
            subst hw''
            have HCq := Lib.hid (HC.out.kept Bq)
            clear p0 p1
            go_wp2_with fail
            go_roundg (3 - (0 + 1))
            case measure => omega
            case rel => exact ⟨0 + 1, by go_num, rfl, by omega, by have a1 := HF.out; have b := HQ.out; simp_all [frP], HCq.out⟩
        · by_cases q : toF s.f1 a.t1 < 0
          · have HQ : Hid (frF s.f1 a.t1 = false) := Lib.hid (by unfold frF; simp; omega)
            go_upto_region 11 with (fail)
            have p0 := cell_by (HC.out.st.cell 4 rfl)
            have p1 := cell_by (HC.out.ack.cell 4 rfl)
            refine wp_region_quiet_below (by kernel_rfl) (by kernel_rfl) ?_
            repeat (go_big_quiet_step (first | (go_at_call 24; refine calls_by_same (refDiff17_any _ _ _))))
            refine wpQuiet_nil ?_
            intro _ hw'
            obtain ⟨⟨wq, Bq⟩, hw''⟩ := hw'
            subst hw''
            have HCq := Lib.hid (HC.out.kept Bq)
            clear p0 p1
            have s0 := HCq.out.st.cell 0 rfl
            have s1 := HCq.out.st.cell 1 rfl
            have s2 := HCq.out.st.cell 2 rfl
            have s3 := HCq.out.st.cell 3 rfl
            have s4 := HCq.out.st.cell 4 rfl
            have s5 := HCq.out.st.cell 5 rfl
            have s6 := HCq.out.st.cell 6 rfl
            have s7 := HCq.out.st.cell 7 rfl
            have r0 := HCq.out.res.cell 0 rfl
            have r1 := HCq.out.res.cell 1 rfl
            have r2 := HCq.out.res.cell 2 rfl
            have r3 := HCq.out.res.cell 3 rfl
            have r4 := HCq.out.res.cell 4 rfl
            have r5 := HCq.out.res.cell 5 rfl
            have r6 := HCq.out.res.cell 6 rfl
            have r7 := HCq.out.res.cell 7 rfl
            have f0 := HCq.out.res.frozen 0
            have f1 := HCq.out.res.frozen 1
            have f2 := HCq.out.res.frozen 2
            have f3 := HCq.out.res.frozen 3
            have f4 := HCq.out.res.frozen 4
            have f5 := HCq.out.res.frozen 5
            have f6 := HCq.out.res.frozen 6
            have f7 := HCq.out.res.frozen 7
            go_wp2_with fail
            clear s0 s1 s2 s3 s4 s5 s6 s7 r0 r1 r2 r3 r4 r5 r6 r7 f0 f1 f2 f3 f4 f5 f6 f7
            have Z := stR_blk HCq.out (.int .i64 s.mss) (.int .i64 s.m) (.int .i64 s.ba) (.int .i64 s.f0) (.int .i64 s.f1) (.int .i64 s.f2) (.int .u32 s.x) (.bool any)
            have r0 := Z.cell 0 rfl
            have r1 := Z.cell 1 rfl
            have r2 := Z.cell 2 rfl
            have r3 := Z.cell 3 rfl
            have r4 := Z.cell 4 rfl
            have r5 := Z.cell 5 rfl
            have r6 := Z.cell 6 rfl
            have r7 := Z.cell 7 rfl
            have L := stR_low HCq.out (.int .i64 s.mss) (.int .i64 s.m) (.int .i64 s.ba) (.int .i64 s.f0) (.int .i64 s.f1) (.int .i64 s.f2) (.int .u32 s.x) (.bool any)
            unfold stR at *
            exact bodyPost_ret (v := .tuple #[.agg #[.int .i64 s.mss, .int .i64 s.m, .int .i64 s.ba, .int .i64 s.f0, .int .i64 s.f1, .int .i64 s.f2, .int .u32 s.x, .bool any], .int .i64 0, .int .i64 11]) (by simp [results, Try.results9, go_sem, r0, r1, r2, r3, r4, r5, r6, r7]) rfl (by unfold RfTo rfA; exact ⟨by rw [HFR.out HNW.out (by have b := HQ.out; simp [frK, b]), HFE.out HNW.out (by have b := HQ.out; simp [frK, b]), Int.sub_self, HAN.out], L⟩)
          · have HQ : Hid (frF s.f1 a.t1 = true) := Lib.hid (by unfold frF; simp; omega)
            go_upto_region 11 with (fail)
            have p0 := cell_by (HC.out.st.cell 4 rfl)
            have p1 := cell_by (HC.out.ack.cell 4 rfl)
            refine wp_region_quiet_below (by kernel_rfl) (by kernel_rfl) ?_
            repeat (go_big_quiet_step (first | (go_at_call 24; refine calls_by_same (refDiff17_any _ _ _))))
            refine wpQuiet_nil ?_
            intro _ hw'
            obtain ⟨⟨wq, Bq⟩, hw''⟩ := hw'
            subst hw''
            have HCq := Lib.hid (HC.out.kept Bq)
            clear p0 p1
            go_wp2_with fail
            go_roundg (3 - (1 + 1))
            case measure => omega
            case rel => exact ⟨1 + 1, by go_num, rfl, by omega, by have a1 := HF.out; have b := HQ.out; simp_all [frP], HCq.out⟩
        · by_cases q : toF s.f2 a.t2 < 0
          · have HQ : Hid (frF s.f2 a.t2 = false) := Lib.hid (by unfold frF; simp; omega)
            go_upto_region 11 with (fail)
            have p0 := cell_by (HC.out.st.cell 5 rfl)
            have p1 := cell_by (HC.out.ack.cell 5 rfl)
            refine wp_region_quiet_below (by kernel_rfl) (by kernel_rfl) ?_
            repeat (go_big_quiet_step (first | (go_at_call 24; refine calls_by_same (refDiff17_any _ _ _))))
            refine wpQuiet_nil ?_
            intro _ hw'
            obtain ⟨⟨wq, Bq⟩, hw''⟩ := hw'
            subst hw''
            have HCq := Lib.hid (HC.out.kept Bq)
            clear p0 p1
            have s0 := HCq.out.st.cell 0 rfl
            have s1 := HCq.out.st.cell 1 rfl
            have s2 := HCq.out.st.cell 2 rfl
            have s3 := HCq.out.st.cell 3 rfl
            have s4 := HCq.out.st.cell 4 rfl
            have s5 := HCq.out.st.cell 5 rfl
            have s6 := HCq.out.st.cell 6 rfl
            have s7 := HCq.out.st.cell 7 rfl
            have r0 := HCq.out.res.cell 0 rfl
            have r1 := HCq.out.res.cell 1 rfl
            have r2 := HCq.out.res.cell 2 rfl
            have r3 := HCq.out.res.cell 3 rfl
            have r4 := HCq.out.res.cell 4 rfl
            have r5 := HCq.out.res.cell 5 rfl
            have r6 := HCq.out.res.cell 6 rfl
            have r7 := HCq.out.res.cell 7 rfl
            have f0 := HCq.out.res.frozen 0
            have f1 := HCq.out.res.frozen 1
            have f2 := HCq.out.res.frozen 2
            have f3 := HCq.out.res.frozen 3
            have f4 := HCq.out.res.frozen 4
            have f5 := HCq.out.res.frozen 5
            have f6 := HCq.out.res.frozen 6
            have f7 := HCq.out.res.frozen 7
            go_wp2_with fail
            clear s0 s1 s2 s3 s4 s5 s6 s7 r0 r1 r2 r3 r4 r5 r6 r7 f0 f1 f2 f3 f4 f5 f6 f7
            have Z := stR_blk HCq.out (.int .i64 s.mss) (.int .i64 s.m) (.int .i64 s.ba) (.int .i64 s.f0) (.int .i64 s.f1) (.int .i64 s.f2) (.int .u32 s.x) (.bool any)
            have r0 := Z.cell 0 rfl
            have r1 := Z.cell 1 rfl
            have r2 := Z.cell 2 rfl
            have r3 := Z.cell 3 rfl
            have r4 := Z.cell 4 rfl
            have r5 := Z.cell 5 rfl
            have r6 := Z.cell 6 rfl
            have r7 := Z.cell 7 rfl
            have L := stR_low HCq.out (.int .i64 s.mss) (.int .i64 s.m) (.int .i64 s.ba) (.int .i64 s.f0) (.int .i64 s.f1) (.int .i64 s.f2) (.int .u32 s.x) (.bool any)
            unfold stR at *
            exact bodyPost_ret (v := .tuple #[.agg #[.int .i64 s.mss, .int .i64 s.m, .int .i64 s.ba, .int .i64 s.f0, .int .i64 s.f1, .int .i64 s.f2, .int .u32 s.x, .bool any], .int .i64 0, .int .i64 11]) (by simp [results, Try.results9, go_sem, r0, r1, r2, r3, r4, r5, r6, r7]) rfl (by unfold RfTo rfA; exact ⟨by rw [HFR.out HNW.out (by have b := HQ.out; simp [frK, b]), HFE.out HNW.out (by have b := HQ.out; simp [frK, b]), Int.sub_self, HAN.out], L⟩)
          · have HQ : Hid (frF s.f2 a.t2 = true) := Lib.hid (by unfold frF; simp; omega)
            go_upto_region 11 with (fail)
            have p0 := cell_by (HC.out.st.cell 5 rfl)
            have p1 := cell_by (HC.out.ack.cell 5 rfl)
            refine wp_region_quiet_below (by kernel_rfl) (by kernel_rfl) ?_
            repeat (go_big_quiet_step (first | (go_at_call 24; refine calls_by_same (refDiff17_any _ _ _))))
            refine wpQuiet_nil ?_
            intro _ hw'
            obtain ⟨⟨wq, Bq⟩, hw''⟩ := hw'
            subst hw''
            have HCq := Lib.hid (HC.out.kept Bq)
            clear p0 p1
            go_wp2_with fail
            go_roundg (3 - (2 + 1))
            case measure => omega
            case rel => exact ⟨2 + 1, by go_num, rfl, by omega, by have a1 := HF.out; have b := HQ.out; simp_all [frP], HCq.out⟩
        · have HFK : Hid (frK s a = true) := Lib.hid HF.out
          clear HF HFR HFE
          go_upto_region 13 with (fail)
          go_cut [60] (fun v wx => v = .bool (!nwR a.s s.x s.t) ∧ RfAt w wx (rfB s any) a)
          case first =>
            have c7 := HC.out.st.cell 7 rfl
            have c6 := HC.out.st.cell 6 rfl
            have d1 := HC.out.ack.cell 1 rfl
            have hsx := HS.out.x
            have has := HA.out.s
            cases any
            · have HNR : Hid (nwR a.s s.x s.t = true) := Lib.hid (by have h := HAN.out; simp at h; rw [h]; exact nwR_0 _ _)
              go_wp2_with fail
              go_meet
              case rel => exact ⟨by rw [HNR.out]; rfl, HC.out⟩
            · have DF := Lib.hid (fun w => refDiff_any a.s s.x 32 w (by omega) (by omega) (by omega))
              have hdb := dif_bd a.s s.x 32
              have HDN : Hid (nwR a.s s.x s.t = decide (0 < dif a.s s.x 32)) := Lib.hid (nwR_s _ _ (by have h := HAN.out; simpa using h))
              generalize dif a.s s.x 32 = dd at *
              go_wp2_with (first | (go_at_call 25; refine (DF.out _).mono ?_; rintro e w5 ⟨rfl, rfl⟩))
              go_meet
              case rel => exact ⟨by rw [HDN.out]; congr 1; by_cases h : 0 < dd <;> simp [h] <;> omega, HC.out⟩
          case rest =>
            obtain ⟨hv, C⟩ := hcut
            clear HC
            have HC := Lib.hid C
            clear C
            by_cases hnr : nwR a.s s.x s.t = true
            case neg =>
              have HNR : Hid (nwR a.s s.x s.t = false) := Lib.hid (by simpa using hnr)
              have TK : Hid (tkK s a = ⟨s.x, s.t, s.p + 1, s.mss, s.m, s.ba, s.f0, s.f1, s.f2⟩) := Lib.hid (by unfold tkK; rw [if_neg (by simp [HNW.out]), if_neg (by simp [HFK.out]), if_neg (by simp [HNR.out])])
              have ER : Hid (erK s a = 11) := Lib.hid (by unfold erK; rw [if_neg (by simp [HNW.out]), if_neg (by simp [HFK.out]), if_neg (by simp [HNR.out])])
              obtain rfl := hv.trans (show Value.bool (!nwR a.s s.x s.t) = .bool true by rw [HNR.out]; rfl)
              clear hnr
              have s0 := HC.out.st.cell 0 rfl
              have s1 := HC.out.st.cell 1 rfl
              have s2 := HC.out.st.cell 2 rfl
              have s3 := HC.out.st.cell 3 rfl
              have s4 := HC.out.st.cell 4 rfl
              have s5 := HC.out.st.cell 5 rfl
              have s6 := HC.out.st.cell 6 rfl
              have s7 := HC.out.st.cell 7 rfl
              have r0 := HC.out.res.cell 0 rfl
              have r1 := HC.out.res.cell 1 rfl
              have r2 := HC.out.res.cell 2 rfl
              have r3 := HC.out.res.cell 3 rfl
              have r4 := HC.out.res.cell 4 rfl
              have r5 := HC.out.res.cell 5 rfl
              have r6 := HC.out.res.cell 6 rfl
              have r7 := HC.out.res.cell 7 rfl
              have f0 := HC.out.res.frozen 0
              have f1 := HC.out.res.frozen 1
              have f2 := HC.out.res.frozen 2
              have f3 := HC.out.res.frozen 3
              have f4 := HC.out.res.frozen 4
              have f5 := HC.out.res.frozen 5
              have f6 := HC.out.res.frozen 6
              have f7 := HC.out.res.frozen 7
              go_wp2_with fail
              clear s0 s1 s2 s3 s4 s5 s6 s7 r0 r1 r2 r3 r4 r5 r6 r7 f0 f1 f2 f3 f4 f5 f6 f7
              have Z := stR_blk HC.out (.int .i64 s.mss) (.int .i64 s.m) (.int .i64 s.ba) (.int .i64 s.f0) (.int .i64 s.f1) (.int .i64 s.f2) (.int .u32 s.x) (.bool any)
              have r0 := Z.cell 0 rfl
              have r1 := Z.cell 1 rfl
              have r2 := Z.cell 2 rfl
              have r3 := Z.cell 3 rfl
              have r4 := Z.cell 4 rfl
              have r5 := Z.cell 5 rfl
              have r6 := Z.cell 6 rfl
              have r7 := Z.cell 7 rfl
              have L := stR_low HC.out (.int .i64 s.mss) (.int .i64 s.m) (.int .i64 s.ba) (.int .i64 s.f0) (.int .i64 s.f1) (.int .i64 s.f2) (.int .u32 s.x) (.bool any)
              unfold stR at *
              exact bodyPost_ret (v := .tuple #[.agg #[.int .i64 s.mss, .int .i64 s.m, .int .i64 s.ba, .int .i64 s.f0, .int .i64 s.f1, .int .i64 s.f2, .int .u32 s.x, .bool any], .int .i64 0, .int .i64 11]) (by simp [results, Try.results9, go_sem, r0, r1, r2, r3, r4, r5, r6, r7]) rfl (by unfold RfTo rfA; exact ⟨by rw [TK.out, ER.out]; simp only [Int.sub_self, HAN.out], L⟩)
            have HNR := Lib.hid hnr
            obtain rfl := hv.trans (show Value.bool (!nwR a.s s.x s.t) = .bool false by rw [hnr]; rfl)
            clear hnr hv
            go_upto_region 15 with (fail)
            have hb := nx_bd HS.out a
            have hm := HS.out.m
            have hba := HS.out.ba
            have hfw := HS.out.few
            have hq := stpA_bd s.m a.c
            have hr := gue_bd s.ba a.c (stF s.f1 a.t1) s.mss
            have hg0 := stF_bd s.f0 a.t0
            have hg1 := stF_bd s.f1 a.t1
            have hg2 := stF_bd s.f2 a.t2
            have hf0 := HS.out.f0
            have hf1 := HS.out.f1
            have hf2 := HS.out.f2
            have TK : Hid (tkK s a = tnK s a) := Lib.hid (by unfold tkK; rw [if_neg (by simp [HNW.out]), if_neg (by simp [HFK.out]), if_pos HNR.out])
            have ER : Hid (erK s a = 0) := Lib.hid (by unfold erK; rw [if_neg (by simp [HNW.out]), if_neg (by simp [HFK.out]), if_pos HNR.out])
            have FM : Hid ((tkK s a).m = nxK s a) := Lib.hid (by rw [TK.out]; rfl)
            have FR : Hid (rfA (tkK s a) = .agg #[.int .i64 s.mss, .int .i64 (nxK s a), .int .i64 (if a.t1 = -1 then s.ba else nxK s a), .int .i64 (s.f0 + stF s.f0 a.t0), .int .i64 (s.f1 + stF s.f1 a.t1), .int .i64 (s.f2 + stF s.f2 a.t2), .int .u32 a.s, .bool true]) := Lib.hid (by
              rw [TK.out, ← (fo_bd (t := a.t0) HS.out.few HS.out.f0).1, ← (fo_bd (t := a.t1) HS.out.few HS.out.f1).1, ← (fo_bd (t := a.t2) HS.out.few HS.out.f2).1]
              unfold rfA tnK
              simp)
            have NN : Hid (nxK s a = if a.t1 = -1 ∨ s.ba + gueA s.ba a.c (stF s.f1 a.t1) s.mss < s.m then s.m + stpA s.m a.c else s.ba + gueA s.ba a.c (stF s.f1 a.t1) s.mss) := Lib.hid rfl
            have HP16 := Lib.hid (fun w => refStep16_any s.m a.c w (by omega) hcc)
            have HG16 := Lib.hid (fun w => refGuess16_any s.ba a.c (stF s.f1 a.t1) s.mss w (by omega) hcc (by omega) HS.out.mss)
            have PQ1 := Lib.hid (fun w => refStep17_any s.f1 a.t1 w)
            have PT0 := Lib.hid (fun w => refStep17_still s.f0 a.t0 w)
            have PT1 := Lib.hid (fun w => refStep17_still s.f1 a.t1 w)
            have PT2 := Lib.hid (fun w => refStep17_still s.f2 a.t2 w)
            clear HFK HNR HNW HS TK
            generalize gueA s.ba a.c (stF s.f1 a.t1) s.mss = r at *
            generalize stpA s.m a.c = q at *
            generalize stF s.f0 a.t0 = g0 at *
            generalize stF s.f1 a.t1 = g1 at *
            generalize stF s.f2 a.t2 = g2 at *
            have hw1 : IntKind.i64.wrap (s.m + q) = s.m + q := by rw [IntKind.wrap_i64]; omega
            have hw2 : IntKind.i64.wrap (s.ba + r) = s.ba + r := by rw [IntKind.wrap_i64]; omega
            have hv0 := Lib.hid (show IntKind.i64.wrap (s.f0 + g0) = s.f0 + g0 by rw [IntKind.wrap_i64]; omega)
            have hv1 := Lib.hid (show IntKind.i64.wrap (s.f1 + g1) = s.f1 + g1 by rw [IntKind.wrap_i64]; omega)
            have hv2 := Lib.hid (show IntKind.i64.wrap (s.f2 + g2) = s.f2 + g2 by rw [IntKind.wrap_i64]; omega)
            have hv3 := Lib.hid (show IntKind.i64.wrap (nxK s a - s.m) = nxK s a - s.m by rw [IntKind.wrap_i64]; omega)
            clear hg0 hg1 hg2 hf0 hf1 hf2
            generalize nxK s a = N at *
            have p0 := cell_by (HC.out.st.cell 1 rfl)
            have p1 := cell_by (HC.out.ack.cell 2 rfl)
            refine wp_region_quiet_below (by kernel_rfl) (by kernel_rfl) ?_
            repeat (go_big_quiet_step (first | (go_at_call 26; refine calls_by_same (HP16.out _))))
            refine wpQuiet_nil ?_
            intro _ hw'
            obtain ⟨⟨wq, Bq⟩, hw''⟩ := hw'
            subst hw''
            have HC1 := Lib.hid (HC.out.kept Bq)
            clear p0 p1 HC Bq
            have c4 := HC1.out.ack.cell 4 rfl
            go_upto_if 73 with (fail)
            go_cut [9] (fun v wx => v = .int .i64 N ∧ RfAt w wx (rfB s any) a)
            case first =>
              have h0 := HT1.out
              by_cases h1 : a.t1 = -1
              · have h2 : ¬ 0 ≤ a.t1 := by omega
                obtain rfl : N = s.m + q := by have := NN.out; rw [if_pos (.inl h1)] at this; exact this
                clear h1 h0
                go_wp2_with fail
                go_meet
                case rel => exact ⟨rfl, HC1.out⟩
              · have h2 : 0 ≤ a.t1 := by omega
                go_upto_region 17 with (fail)
                have p0 := cell_by (HC1.out.st.cell 0 rfl)
                have p1 := cell_by (HC1.out.st.cell 2 rfl)
                have p2 := cell_by (HC1.out.st.cell 4 rfl)
                have p3 := cell_by (HC1.out.ack.cell 2 rfl)
                have p4 := cell_by (HC1.out.ack.cell 4 rfl)
                refine wp_region_quiet_below (by kernel_rfl) (by kernel_rfl) ?_
                repeat (go_big_quiet_step (first | (go_at_call 28; refine calls_by_same (PQ1.out _)) | (go_at_call 27; refine calls_by_same (HG16.out _))))
                refine wpQuiet_nil ?_
                intro _ hw'
                obtain ⟨⟨wr, Br⟩, hw''⟩ := hw'
                subst hw''
                have HC2 := Lib.hid (HC1.out.kept Br)
                clear p0 p1 p2 p3 p4 HC1 Br c4
                have c1 := HC2.out.st.cell 1 rfl
                by_cases h3 : s.ba + r < s.m
                · have h4 : ¬ s.m ≤ s.ba + r := by omega
                  obtain rfl : N = s.m + q := by have := NN.out; rw [if_pos (.inr h3)] at this; exact this
                  go_wp2_with fail
                  go_meet
                  case rel => exact ⟨rfl, HC2.out⟩
                · have h4 : s.m ≤ s.ba + r := by omega
                  obtain rfl : N = s.ba + r := by have := NN.out; rw [if_neg (by omega)] at this; exact this
                  go_wp2_with fail
                  go_meet
                  case rel => exact ⟨rfl, HC2.out⟩
            case rest =>
              obtain ⟨rfl, C⟩ := hcut
              have HC := Lib.hid C
              clear C HC1 c4 hw1 hw2 HP16 HG16 hb hm hba hq hr
              have c1 := HC.out.st.cell 1 rfl
              have z1 := HC.out.st.frozen 1
              go_wp2_with fail
              go_loopg [12] 3 (fun gh v wr => Rf3 w s a any N g0 g1 g2 gh v wr)
              case atStart => exact ⟨0, rfl, rfl, by omega, HC.out.set 1 (.int .i64 N)⟩
              case round =>
                clear HC c1 z1
                obtain ⟨k, rfl, rfl, hk, C⟩ := hrel
                have HC := Lib.hid C
                clear C
                obtain rfl | rfl | rfl | rfl : k = 0 ∨ k = 1 ∨ k = 2 ∨ k = 3 := by omega
                · go_upto_region 25 with (fail)
                  have p0 := HC.out.st.cell 3 rfl
                  have p1 := HC.out.ack.cell 3 rfl
                  have p3 := hv0.out
                  go_still_tail 17, (by kernel_rfl)
                  still_call (PT0.out _)
                  repeat still_step
                  refine wpStill_nil ?_
                  clear p0 p1 p3
                  have HD := HC.out.drew
                  change wpList _ _ _ _ _ wr.drew
                  generalize wr.drew = X at HD ⊢
                  have p0 := HD.st.cell 3 rfl
                  have p2 := HD.st.frozen 3
                  go_wp2_with fail
                  go_roundg (3 - (0 + 1))
                  case measure => omega
                  case rel => exact ⟨0 + 1, by go_num, rfl, by omega, HD.set 3 (.int .i64 (s.f0 + g0))⟩
                · go_upto_region 25 with (fail)
                  have p0 := HC.out.st.cell 4 rfl
                  have p1 := HC.out.ack.cell 4 rfl
                  have p3 := hv1.out
                  go_still_tail 17, (by kernel_rfl)
                  still_call (PT1.out _)
                  repeat still_step
                  refine wpStill_nil ?_
                  clear p0 p1 p3
                  have HD := HC.out.drew
                  change wpList _ _ _ _ _ wr.drew
                  generalize wr.drew = X at HD ⊢
                  have p0 := HD.st.cell 4 rfl
                  have p2 := HD.st.frozen 4
                  go_wp2_with fail
                  go_roundg (3 - (1 + 1))
                  case measure => omega
                  case rel => exact ⟨1 + 1, by go_num, rfl, by omega, HD.set 4 (.int .i64 (s.f1 + g1))⟩
                · go_upto_region 25 with (fail)
                  have p0 := HC.out.st.cell 5 rfl
                  have p1 := HC.out.ack.cell 5 rfl
                  have p3 := hv2.out
                  go_still_tail 17, (by kernel_rfl)
                  still_call (PT2.out _)
                  repeat still_step
                  refine wpStill_nil ?_
                  clear p0 p1 p3
                  have HD := HC.out.drew
                  change wpList _ _ _ _ _ wr.drew
                  generalize wr.drew = X at HD ⊢
                  have p0 := HD.st.cell 5 rfl
                  have p2 := HD.st.frozen 5
                  go_wp2_with fail
                  go_roundg (3 - (2 + 1))
                  case measure => omega
                  case rel => exact ⟨2 + 1, by go_num, rfl, by omega, HD.set 5 (.int .i64 (s.f2 + g2))⟩
                · clear PT0 PT1 PT2 PQ1
                  have c4 := HC.out.ack.cell 4 rfl
                  have h0 := HT1.out
                  by_cases h1 : a.t1 = -1
                  · have h2 : ¬ 0 ≤ a.t1 := by omega
                    have H1 := Lib.hid h1
                    clear h1 h0
                    go_upto_region 28 with (fail)
                    have HC5 := HC
                    clear c4
                    have o6 := HC5.out.st.cell 6 rfl
                    have z6 := HC5.out.st.frozen 6
                    have d1 := HC5.out.ack.cell 1 rfl
                    go_upto_region 29 with (fail)
                    have HC6 := Lib.hid (HC5.out.set 6 (.int .u32 a.s))
                    clear o6 z6 d1 HC5
                    have o7 := HC6.out.st.cell 7 rfl
                    have z7 := HC6.out.st.frozen 7
                    go_upto_region 30 with (fail)
                    have HC7 := Lib.hid (HC6.out.set 7 (.bool true))
                    clear o7 z7 HC6
                    have s0 := HC7.out.st.cell 0 rfl
                    have s1 := HC7.out.st.cell 1 rfl
                    have s2 := HC7.out.st.cell 2 rfl
                    have s3 := HC7.out.st.cell 3 rfl
                    have s4 := HC7.out.st.cell 4 rfl
                    have s5 := HC7.out.st.cell 5 rfl
                    have s6 := HC7.out.st.cell 6 rfl
                    have s7 := HC7.out.st.cell 7 rfl
                    have r0 := HC7.out.res.cell 0 rfl
                    have r1 := HC7.out.res.cell 1 rfl
                    have r2 := HC7.out.res.cell 2 rfl
                    have r3 := HC7.out.res.cell 3 rfl
                    have r4 := HC7.out.res.cell 4 rfl
                    have r5 := HC7.out.res.cell 5 rfl
                    have r6 := HC7.out.res.cell 6 rfl
                    have r7 := HC7.out.res.cell 7 rfl
                    have f0 := HC7.out.res.frozen 0
                    have f1 := HC7.out.res.frozen 1
                    have f2 := HC7.out.res.frozen 2
                    have f3 := HC7.out.res.frozen 3
                    have f4 := HC7.out.res.frozen 4
                    have f5 := HC7.out.res.frozen 5
                    have f6 := HC7.out.res.frozen 6
                    have f7 := HC7.out.res.frozen 7
                    have v3 := hv3.out
                    go_wp2_with fail
                    clear s0 s1 s2 s3 s4 s5 s6 s7 r0 r1 r2 r3 r4 r5 r6 r7 f0 f1 f2 f3 f4 f5 f6 f7
                    have Z := stR_blk HC7.out (.int .i64 s.mss) (.int .i64 N) (.int .i64 s.ba) (.int .i64 (s.f0 + g0)) (.int .i64 (s.f1 + g1)) (.int .i64 (s.f2 + g2)) (.int .u32 a.s) (.bool true)
                    have r0 := Z.cell 0 rfl
                    have r1 := Z.cell 1 rfl
                    have r2 := Z.cell 2 rfl
                    have r3 := Z.cell 3 rfl
                    have r4 := Z.cell 4 rfl
                    have r5 := Z.cell 5 rfl
                    have r6 := Z.cell 6 rfl
                    have r7 := Z.cell 7 rfl
                    have L := stR_low HC7.out (.int .i64 s.mss) (.int .i64 N) (.int .i64 s.ba) (.int .i64 (s.f0 + g0)) (.int .i64 (s.f1 + g1)) (.int .i64 (s.f2 + g2)) (.int .u32 a.s) (.bool true)
                    unfold stR at *
                    exact bodyPost_ret (v := .tuple #[.agg #[.int .i64 s.mss, .int .i64 N, .int .i64 s.ba, .int .i64 (s.f0 + g0), .int .i64 (s.f1 + g1), .int .i64 (s.f2 + g2), .int .u32 a.s, .bool true], .int .i64 (N - s.m), .int .i64 0]) (by simp [results, Try.results9, go_sem, r0, r1, r2, r3, r4, r5, r6, r7]) rfl (by unfold RfTo; exact ⟨by rw [FR.out, FM.out, ER.out, if_pos H1.out], L⟩)
                  · have h2 : 0 ≤ a.t1 := by omega
                    have H1 := Lib.hid h1
                    clear h1 h0
                    have c2 := HC.out.st.cell 2 rfl
                    have z2 := HC.out.st.frozen 2
                    go_upto_region 28 with (fail)
                    have HC5 := Lib.hid (HC.out.set 2 (.int .i64 N))
                    clear HC c4 c2 z2
                    have o6 := HC5.out.st.cell 6 rfl
                    have z6 := HC5.out.st.frozen 6
                    have d1 := HC5.out.ack.cell 1 rfl
                    go_upto_region 29 with (fail)
                    have HC6 := Lib.hid (HC5.out.set 6 (.int .u32 a.s))
                    clear o6 z6 d1 HC5
                    have o7 := HC6.out.st.cell 7 rfl
                    have z7 := HC6.out.st.frozen 7
                    go_upto_region 30 with (fail)
                    have HC7 := Lib.hid (HC6.out.set 7 (.bool true))
                    clear o7 z7 HC6
                    have s0 := HC7.out.st.cell 0 rfl
                    have s1 := HC7.out.st.cell 1 rfl
                    have s2 := HC7.out.st.cell 2 rfl
                    have s3 := HC7.out.st.cell 3 rfl
                    have s4 := HC7.out.st.cell 4 rfl
                    have s5 := HC7.out.st.cell 5 rfl
                    have s6 := HC7.out.st.cell 6 rfl
                    have s7 := HC7.out.st.cell 7 rfl
                    have r0 := HC7.out.res.cell 0 rfl
                    have r1 := HC7.out.res.cell 1 rfl
                    have r2 := HC7.out.res.cell 2 rfl
                    have r3 := HC7.out.res.cell 3 rfl
                    have r4 := HC7.out.res.cell 4 rfl
                    have r5 := HC7.out.res.cell 5 rfl
                    have r6 := HC7.out.res.cell 6 rfl
                    have r7 := HC7.out.res.cell 7 rfl
                    have f0 := HC7.out.res.frozen 0
                    have f1 := HC7.out.res.frozen 1
                    have f2 := HC7.out.res.frozen 2
                    have f3 := HC7.out.res.frozen 3
                    have f4 := HC7.out.res.frozen 4
                    have f5 := HC7.out.res.frozen 5
                    have f6 := HC7.out.res.frozen 6
                    have f7 := HC7.out.res.frozen 7
                    have v3 := hv3.out
                    go_wp2_with fail
                    clear s0 s1 s2 s3 s4 s5 s6 s7 r0 r1 r2 r3 r4 r5 r6 r7 f0 f1 f2 f3 f4 f5 f6 f7
                    have Z := stR_blk HC7.out (.int .i64 s.mss) (.int .i64 N) (.int .i64 N) (.int .i64 (s.f0 + g0)) (.int .i64 (s.f1 + g1)) (.int .i64 (s.f2 + g2)) (.int .u32 a.s) (.bool true)
                    have r0 := Z.cell 0 rfl
                    have r1 := Z.cell 1 rfl
                    have r2 := Z.cell 2 rfl
                    have r3 := Z.cell 3 rfl
                    have r4 := Z.cell 4 rfl
                    have r5 := Z.cell 5 rfl
                    have r6 := Z.cell 6 rfl
                    have r7 := Z.cell 7 rfl
                    have L := stR_low HC7.out (.int .i64 s.mss) (.int .i64 N) (.int .i64 N) (.int .i64 (s.f0 + g0)) (.int .i64 (s.f1 + g1)) (.int .i64 (s.f2 + g2)) (.int .u32 a.s) (.bool true)
                    unfold stR at *
                    exact bodyPost_ret (v := .tuple #[.agg #[.int .i64 s.mss, .int .i64 N, .int .i64 N, .int .i64 (s.f0 + g0), .int .i64 (s.f1 + g1), .int .i64 (s.f2 + g2), .int .u32 a.s, .bool true], .int .i64 (N - s.m), .int .i64 0]) (by simp [results, Try.results9, go_sem, r0, r1, r2, r3, r4, r5, r6, r7]) rfl (by unfold RfTo; exact ⟨by rw [FR.out, FM.out, ER.out, if_neg H1.out], L⟩)
theorem rfTake_any (n : Nat) (s : Sn) (a : Ak) (w : World) (hs : OkS n s) (ha : OkA a) :
    Calls Try.prog 9 #[.agg #[.int .i64 s.mss, .int .i64 s.m, .int .i64 s.ba, .int .i64 s.f0, .int .i64 s.f1, .int .i64 s.f2, .int .u32 s.x, .bool (decide (0 < s.t))], .agg #[.int .i64 a.u, .int .u32 a.s, .int .u8 a.c, .int .i64 a.t0, .int .i64 a.t1, .int .i64 a.t2]] w (RfTo w (tkK s a) ((tkK s a).m - s.m) (erK s a)) := by
  by_cases hc : 7 < a.c
  · have h : wrK a = true := by unfold wrK; simp [hc]
    have e1 : tkK s a = s := by unfold tkK; rw [if_pos h]
    have e2 : erK s a = 2 := by unfold erK; rw [if_pos h]
    rw [e1, e2, Int.sub_self]
    exact rfTake_ace s a w ha hc
  · exact rfTake_rest n s a w hs ha hc
end Go.Proofs.Ytfoonfmhamaclaa
