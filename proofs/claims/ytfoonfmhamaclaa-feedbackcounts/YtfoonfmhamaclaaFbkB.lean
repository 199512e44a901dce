/- Package fresh on a filter that stands first within a sender: counted, Last, isNewer, Take. -/
import Derived.Test.YtfoonfmhamaclaaFbkA
namespace Go.Proofs.Ytfoonfmhamaclaa
open Go.ChangeShapes Go.WideShapes Go.ChangeAt Go.RowKit
set_option linter.unusedVariables false

theorem countedE (b : Nat) (s : Sn) (w : World) (h : SnB w b s) :
    Calls Try.prog 48 #[.pointer (some ⟨b, 0, none⟩)] w fun e w' => e = .returned (.agg #[.int .i64 (s.t : Int), .int .i64 (s.p : Int)]) ∧ Below w.heap.size w w' := by
  have c1 := fun o => (Blk.alloc h o).cell 1 rfl
  have c2 := fun o => (Blk.alloc h o).cell 2 rfl
  clear h
  go_enter Try.func48, Try.ntmps48
  go_wp2_with fail
  exact bodyPost_ret (v := .agg #[.int .i64 (s.t : Int), .int .i64 (s.p : Int)]) (by simp [results, Try.results48, go_sem]) rfl ⟨rfl, new_alloc (new_refl w) _⟩
theorem lastE_none (b : Nat) (s : Sn) (w : World) (h : SnB w b s) (ht : s.t = 0) :
    Calls Try.prog 43 #[.pointer (some ⟨b, 0, none⟩)] w fun e w' => e = .returned (.tuple #[.int .u32 0, .bool false]) ∧ Below w.heap.size w w' := by
  have hi := idxR0 0 s.p
  have H := countedE b s w h
  rw [ht] at H
  replace H := Lib.hid H
  clear h ht
  go_enter Try.func43, Try.ntmps43
  go_wp2_with (go_at_call 48; refine H.out.mono ?_; rintro e w1 ⟨rfl, B1⟩)
  exact bodyPost_ret (v := .tuple #[.int .u32 0, .bool false]) (by simp [results, Try.results43, go_sem]) rfl ⟨rfl, B1⟩
theorem lastE_some (b : Nat) (s : Sn) (w : World) (h : SnB w b s) (ht : 0 < s.t) :
    Calls Try.prog 43 #[.pointer (some ⟨b, 0, none⟩)] w fun e w' => e = .returned (.tuple #[.int .u32 s.x, .bool true]) ∧ Below w.heap.size w w' := by
  have hi := idxR0 s.t s.p
  have H := Lib.hid (countedE b s w h)
  have HF := Lib.hid h
  have t0 : ¬ (s.t : Int) = 0 := by omega
  have t1 : ¬ s.t = 0 := by omega
  clear h
  go_enter Try.func43, Try.ntmps43
  go_wp2_with (go_at_call 48; refine H.out.mono ?_; rintro e w1 ⟨rfl, B1⟩; have c0 := (Blk.kept HF.out B1).cell 0 rfl)
  exact bodyPost_ret (v := .tuple #[.int .u32 s.x, .bool true]) (by simp [results, Try.results43, go_sem]) rfl ⟨rfl, B1⟩
theorem newerE (b : Nat) (z : Int) (s : Sn) (w : World) (h : SnB w b s) (hz : 0 ≤ z ∧ z ≤ 4294967295) (hx : 0 ≤ s.x ∧ s.x ≤ 4294967295) :
    Calls Try.prog 33 #[.pointer (some ⟨b, 0, none⟩), .int .u32 z] w fun e w' => e = .returned (.bool (nwR z s.x s.t)) ∧ Below w.heap.size w w' := by
  by_cases ht : s.t = 0
  · have H := Lib.hid (lastE_none b s w h ht)
    rw [ht, nwR_0]
    clear h
    go_enter Try.func33, Try.ntmps33
    go_wp2_with (go_at_call 43; refine H.out.mono ?_; rintro e w1 ⟨rfl, B1⟩)
    go_ret
    exact ⟨rfl, B1⟩
  · rw [nwR_s z s.x (by omega)]
    have H := Lib.hid (lastE_some b s w h (by omega))
    clear h
    go_enter Try.func33, Try.ntmps33
    go_wp2_with (first
      | (go_at_call 43; refine H.out.mono ?_; rintro e w1 ⟨rfl, B1⟩)
      | (go_at_call 44; refine (newer_any z s.x 32 _ (by omega) (by omega) (by omega)).mono ?_; rintro e w2 ⟨rfl, B2⟩))
    go_ret
    exact ⟨rfl, new_then B1 B2⟩
/-- The sender behind a stamp that its filter is told. -/
def fiE (s : Sn) (z : Int) : Sn := if nwR z s.x s.t = true then ⟨z, s.t + 1, s.p, s.mss, s.m, s.ba, s.f0, s.f1, s.f2⟩ else ⟨s.x, s.t, s.p + 1, s.mss, s.m, s.ba, s.f0, s.f1, s.f2⟩
theorem fiE_yes {s : Sn} {z : Int} (h : nwR z s.x s.t = true) : fiE s z = ⟨z, s.t + 1, s.p, s.mss, s.m, s.ba, s.f0, s.f1, s.f2⟩ := if_pos h
theorem fiE_no {s : Sn} {z : Int} (h : nwR z s.x s.t = false) : fiE s z = ⟨s.x, s.t, s.p + 1, s.mss, s.m, s.ba, s.f0, s.f1, s.f2⟩ := if_neg (by rw [h]; decide)
theorem takeE (b : Nat) (z : Int) (s : Sn) (w : World) (h : SnB w b s) (hz : 0 ≤ z ∧ z ≤ 4294967295) (hx : 0 ≤ s.x ∧ s.x ≤ 4294967295) (ht : s.t ≤ 1000) (hp : s.p ≤ 1000) :
    Calls Try.prog 19 #[.pointer (some ⟨b, 0, none⟩), .int .u32 z] w fun e w' => e = .returned (.bool (nwR z s.x s.t)) ∧ Out (fun j => j = b) w w' ∧ SnB w' b (fiE s z) := by
  have H := Lib.hid (newerE b z s w h hz hx)
  have HF := Lib.hid h
  have HE := Lib.hid (fun k => fiE_yes (s := s) (z := z) k)
  have HN := Lib.hid (fun k => fiE_no (s := s) (z := z) k)
  clear h
  cases hn : nwR z s.x s.t
  · rw [HN.out hn]
    rw [hn] at H
    clear hn
    go_enter Try.func19, Try.ntmps19
    go_wp2_with (first
      | (go_at_call 33; refine H.out.mono ?_; rintro e w1 ⟨rfl, B1⟩
         have K1 := Blk.kept HF.out B1
         have c2 := K1.cell 2 rfl
         have f2 := K1.frozen 2
         have Q1 := Lib.hid (K1.set 2 (.int .i64 ((s.p : Int) + 1)))
         clear K1))
    go_region
    all_goals go_wp2_with fail
    go_ret
    exact ⟨rfl, (Out.set (p := ⟨b, 2, none⟩) ((Out.refl (fun j => j = b) w).new B1) (.inl rfl) _).drew, Q1.out⟩
  · rw [HE.out hn]
    rw [hn] at H
    clear hn
    go_enter Try.func19, Try.ntmps19
    go_wp2_with (first
      | (go_at_call 33; refine H.out.mono ?_; rintro e w1 ⟨rfl, B1⟩
         have K1 := Blk.kept HF.out B1
         have c0 := K1.cell 0 rfl
         have c1 := K1.cell 1 rfl
         have f0 := K1.frozen 0
         have f1 := K1.frozen 1
         have K2 := K1.set 0 (.int .u32 z)
         have d1 := K2.cell 1 rfl
         have g1 := K2.frozen 1
         have Q1 := Lib.hid (K2.set 1 (.int .i64 ((s.t : Int) + 1)))
         clear K1 K2))
    go_region
    all_goals go_wp2_with fail
    go_ret
    exact ⟨rfl, (Out.set (p := ⟨b, 1, none⟩) (Out.set (p := ⟨b, 0, none⟩) ((Out.refl (fun j => j = b) w).new B1) (.inl rfl) _) (.inl rfl) _).drew, Q1.out⟩
/-- Marked, Bytes, New. -/
theorem marked19_nil (w : World) : Calls Try.prog 10 #[.pointer none] w fun e w' => e = .returned (.int .i64 0) ∧ w = w' := by
  go_enter Try.func10, Try.ntmps10
  go_wp2_with fail
  go_ret
  exact ⟨rfl, rfl⟩
theorem marked19_any (b : Nat) (s : Sn) (w : World) (h : SnB w b s) : Calls Try.prog 10 #[.pointer (some ⟨b, 0, none⟩)] w fun e w' => e = .returned (.int .i64 s.m) ∧ w = w' := by
  have c4 := Blk.cell h 4 rfl
  clear h
  go_enter Try.func10, Try.ntmps10
  go_wp2_with fail
  go_ret
  exact ⟨rfl, rfl⟩
theorem bytes19_nil (w : World) : Calls Try.prog 11 #[.pointer none] w fun e w' => e = .returned (.agg #[.int .i64 0, .int .i64 0, .int .i64 0]) ∧ Below w.heap.size w w' := by
  go_enter Try.func11, Try.ntmps11
  go_wp2_with fail
  exact bodyPost_ret (v := .agg #[.int .i64 0, .int .i64 0, .int .i64 0]) (by simp [results, Try.results11, go_sem]) rfl ⟨rfl, new_alloc (new_refl w) _⟩
theorem bytes19_any (b : Nat) (s : Sn) (w : World) (h : SnB w b s) : Calls Try.prog 11 #[.pointer (some ⟨b, 0, none⟩)] w fun e w' => e = .returned (.agg #[.int .i64 s.f0, .int .i64 s.f1, .int .i64 s.f2]) ∧ Below w.heap.size w w' := by
  have c6 := fun o => (Blk.alloc h o).cell 6 rfl
  have c7 := fun o => (Blk.alloc h o).cell 7 rfl
  have c8 := fun o => (Blk.alloc h o).cell 8 rfl
  clear h
  go_enter Try.func11, Try.ntmps11
  go_wp2_with fail
  exact bodyPost_ret (v := .agg #[.int .i64 s.f0, .int .i64 s.f1, .int .i64 s.f2]) (by simp [results, Try.results11, go_sem]) rfl ⟨rfl, new_alloc (new_refl w) _⟩
def stK (n : Int) : Int := clampI n 0 1099511627776
/-- A sender among the blocks that came since w. -/
structure SIn (w : World) (b : Nat) (s : Sn) (wr : World) : Prop where
  snd : SnB wr b s
  new : w.heap.size ≤ b
  low : Below w.heap.size w wr
theorem SIn.kept {w wr w' : World} {b : Nat} {s : Sn} (h : SIn w b s wr) (B : Below wr.heap.size wr w') : SIn w b s w' := ⟨Blk.kept h.snd B, h.new, new_then h.low B⟩
theorem SIn.draw {w wr : World} {b : Nat} {s : Sn} (h : SIn w b s wr) (n : Nat) : SIn w b s (wr.drewN n) := ⟨h.snd, h.new, new_draw h.low n⟩
theorem SIn.out {w wr w' : World} {b : Nat} {s s' : Sn} (h : SIn w b s wr) (o : Out (fun j => j = b) wr w') (k : SnB w' b s') : SIn w b s' w' :=
  ⟨k, h.new, h.low.trans (o.below h.low.size (fun j hj => by subst hj; exact h.new))⟩
def New19 (w : World) (mss m : Int) (e : Ending) (w' : World) : Prop := ∃ b, e = .returned (.pointer (some ⟨b, 0, none⟩)) ∧ SIn w b ⟨0, 0, 0, mss, m, m, 1, 0, 1⟩ w'
theorem new19_any (mss st : Int) (w : World) : Calls Try.prog 6 #[.int .i64 mss, .int .i64 st] w (New19 w mss (stK st)) := by
  have C := Lib.hid (fun w => satClamp_any st 0 1099511627776 w)
  have E : Hid (clampI st 0 1099511627776 = stK st) := Lib.hid rfl
  rw [E.out] at C
  generalize stK st = m at *
  go_enter Try.func6, Try.ntmps6
  go_wp2_with (first
    | (go_at_call 16; refine (C.out _).mono ?_; rintro e w1 ⟨rfl, rfl⟩))
  go_ret
  exact ⟨w.heap.size, rfl, Blk.new w [.int .u32 0, .int .i64 0, .int .i64 0, .int .i64 mss, .int .i64 m, .int .i64 m, .int .i64 1, .int .i64 0, .int .i64 1] _, Nat.le_refl _, new_alloc (new_refl w) _⟩
end Go.Proofs.Ytfoonfmhamaclaa
