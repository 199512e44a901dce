/- Package fresh: the newest stamp in memory; New, counted, Last, Counts, isNewer, Take; leatlaw18.works. -/
import Derived.Test.YtfoonfmhamaclaaSerB
import Derived.Test.YtfoonfmhamaclaaMem
import Derived.OwnWalk
import Derived.RegionTactic
import Derived.ChangeAlike
import Derived.BigRegion
import Derived.Deep.QuietTactic
import Derived.BigQuiet
import Derived.IntWalk
import Derived.Deep.RegionHeld3
import Derived.Deep.DeepCutAuto
import Derived.Deep.LoopGhost
import Derived.Deep.Light
import Derived.Deep.Onto
namespace Go.Proofs.Ytfoonfmhamaclaa
open Go.ChangeShapes Go.WideShapes Go.ChangeAt Go.RowKit
set_option linter.unusedVariables false

theorem idxR0 (a b : Int) (w : World) : (Instr.index 56 (.agg #[.int .i64 a, .int .i64 b]) (.int .i64 0)).run Try.prog w = .ok (.int .i64 a) w := by kernel_rfl
/-- A filter at block b: the last stamp that was taken, how many were, and how many were not. -/
def FilB (w : World) (b : Nat) (x : Int) (t p : Nat) : Prop := Blk w b [.int .u32 x, .int .i64 (t : Int), .int .i64 (p : Int)] 58

theorem counted_nil (w : World) :
    Calls Try.prog 48 #[.pointer none] w fun e w' => e = .returned (.agg #[.int .i64 0, .int .i64 0]) ∧ Below w.heap.size w w' := by
  go_enter Try.func48, Try.ntmps48
  go_wp2_with fail
  exact bodyPost_ret (v := .agg #[.int .i64 0, .int .i64 0]) (by simp [results, Try.results48, go_sem]) rfl ⟨rfl, new_alloc (new_refl w) _⟩
theorem counted_any (b : Nat) (x : Int) (t p : Nat) (w : World) (h : FilB w b x t p) :
    Calls Try.prog 48 #[.pointer (some ⟨b, 0, none⟩)] w fun e w' => e = .returned (.agg #[.int .i64 (t : Int), .int .i64 (p : Int)]) ∧ Below w.heap.size w w' := by
  have c1 := fun o => (h.alloc o).cell 1 rfl
  have c2 := fun o => (h.alloc o).cell 2 rfl
  clear h
  go_enter Try.func48, Try.ntmps48
  go_wp2_with fail
  exact bodyPost_ret (v := .agg #[.int .i64 (t : Int), .int .i64 (p : Int)]) (by simp [results, Try.results48, go_sem]) rfl ⟨rfl, new_alloc (new_refl w) _⟩
theorem last_nil (w : World) :
    Calls Try.prog 43 #[.pointer none] w fun e w' => e = .returned (.tuple #[.int .u32 0, .bool false]) ∧ Below w.heap.size w w' := by
  have hi := idxR0 0 0
  go_enter Try.func43, Try.ntmps43
  go_wp2_with (go_at_call 48; refine (counted_nil _).mono ?_; rintro e w1 ⟨rfl, B1⟩)
  exact bodyPost_ret (v := .tuple #[.int .u32 0, .bool false]) (by simp [results, Try.results43, go_sem]) rfl ⟨rfl, B1⟩
theorem last_none (b : Nat) (x : Int) (p : Nat) (w : World) (h : FilB w b x 0 p) :
    Calls Try.prog 43 #[.pointer (some ⟨b, 0, none⟩)] w fun e w' => e = .returned (.tuple #[.int .u32 0, .bool false]) ∧ Below w.heap.size w w' := by
  have hi := idxR0 0 p
  have H := Lib.hid (counted_any b x 0 p w h)
  go_enter Try.func43, Try.ntmps43
  go_wp2_with (go_at_call 48; refine H.out.mono ?_; rintro e w1 ⟨rfl, B1⟩)
  exact bodyPost_ret (v := .tuple #[.int .u32 0, .bool false]) (by simp [results, Try.results43, go_sem]) rfl ⟨rfl, B1⟩
theorem last_some (b : Nat) (x : Int) (t p : Nat) (w : World) (h : FilB w b x t p) (ht : 0 < t) :
    Calls Try.prog 43 #[.pointer (some ⟨b, 0, none⟩)] w fun e w' => e = .returned (.tuple #[.int .u32 x, .bool true]) ∧ Below w.heap.size w w' := by
  have hi := idxR0 t p
  have H := Lib.hid (counted_any b x t p w h)
  have HF := Lib.hid h
  have t0 : ¬ (t : Int) = 0 := by omega
  have t1 : ¬ t = 0 := by omega
  clear h
  go_enter Try.func43, Try.ntmps43
  go_wp2_with (go_at_call 48; refine H.out.mono ?_; rintro e w1 ⟨rfl, B1⟩; have c0 := (HF.out.kept B1).cell 0 rfl)
  exact bodyPost_ret (v := .tuple #[.int .u32 x, .bool true]) (by simp [results, Try.results43, go_sem]) rfl ⟨rfl, B1⟩
/-- Is a stamp taken? -/
def nwR (s x : Int) (t : Nat) : Bool := decide (t = 0 ∨ 0 < dif s x 32)
theorem nwR_0 (s x : Int) : nwR s x 0 = true := by simp [nwR]
theorem nwR_s (s x : Int) {t : Nat} (h : 0 < t) : nwR s x t = decide (0 < dif s x 32) := by
  have : t ≠ 0 := by omega
  simp [nwR, this]
theorem newer_is (b : Nat) (s x : Int) (t p : Nat) (w : World) (h : FilB w b x t p) (hs : 0 ≤ s ∧ s ≤ 4294967295) (hx : 0 ≤ x ∧ x ≤ 4294967295) :
    Calls Try.prog 33 #[.pointer (some ⟨b, 0, none⟩), .int .u32 s] w fun e w' => e = .returned (.bool (nwR s x t)) ∧ Below w.heap.size w w' := by
  by_cases ht : t = 0
  · subst ht
    rw [nwR_0]
    have H := Lib.hid (last_none b x p w h)
    clear h
    go_enter Try.func33, Try.ntmps33
    go_wp2_with (go_at_call 43; refine H.out.mono ?_; rintro e w1 ⟨rfl, B1⟩)
    go_ret
    exact ⟨rfl, B1⟩
  · rw [nwR_s s x (by omega)]
    have H := Lib.hid (last_some b x t p w h (by omega))
    clear h
    go_enter Try.func33, Try.ntmps33
    go_wp2_with (first
      | (go_at_call 43; refine H.out.mono ?_; rintro e w1 ⟨rfl, B1⟩)
      | (go_at_call 44; refine (newer_any s x 32 _ (by omega) (by omega) (by omega)).mono ?_; rintro e w2 ⟨rfl, B2⟩))
    go_ret
    exact ⟨rfl, new_then B1 B2⟩
/-- Behind a stamp. -/
def TkR (w : World) (b : Nat) (s x : Int) (t p : Nat) (e : Ending) (w' : World) : Prop :=
  e = .returned (.bool (nwR s x t)) ∧ Out (fun j => j = b) w w' ∧ ((nwR s x t = true ∧ FilB w' b s (t + 1) p) ∨ (nwR s x t = false ∧ FilB w' b x t (p + 1)))
theorem take18_nil (s : Int) (w : World) :
    Calls Try.prog 19 #[.pointer none, .int .u32 s] w fun e w' => e = .returned (.bool false) ∧ w = w' := by
  go_enter Try.func19, Try.ntmps19
  go_wp2_with fail
  go_ret
  exact ⟨rfl, rfl⟩
theorem take18_any (b : Nat) (s x : Int) (t p : Nat) (w : World) (h : FilB w b x t p) (hs : 0 ≤ s ∧ s ≤ 4294967295) (hx : 0 ≤ x ∧ x ≤ 4294967295) (ht : t ≤ 1000) (hp : p ≤ 1000) :
    Calls Try.prog 19 #[.pointer (some ⟨b, 0, none⟩), .int .u32 s] w (TkR w b s x t p) := by
  have H := Lib.hid (newer_is b s x t p w h hs hx)
  have HF := Lib.hid h
  clear h
  unfold TkR
  cases hn : nwR s x t
  · rw [hn] at H
    clear hn
    go_enter Try.func19, Try.ntmps19
    go_wp2_with (first
      | (go_at_call 33; refine H.out.mono ?_; rintro e w1 ⟨rfl, B1⟩
         have K1 := HF.out.kept B1
         have c2 := K1.cell 2 rfl
         have f2 := K1.frozen 2
         have Q1 := Lib.hid (K1.set 2 (.int .i64 ((p : Int) + 1)))
         clear K1))
    go_region
    all_goals go_wp2_with fail
    go_ret
    exact ⟨rfl, (Out.set (p := ⟨b, 2, none⟩) ((Out.refl (fun j => j = b) w).new B1) (.inl rfl) _).drew, .inr ⟨trivial, Q1.out⟩⟩
  · rw [hn] at H
    clear hn
    go_enter Try.func19, Try.ntmps19
    go_wp2_with (first
      | (go_at_call 33; refine H.out.mono ?_; rintro e w1 ⟨rfl, B1⟩
         have K1 := HF.out.kept B1
         have c0 := K1.cell 0 rfl
         have c1 := K1.cell 1 rfl
         have f0 := K1.frozen 0
         have f1 := K1.frozen 1
         have K2 := K1.set 0 (.int .u32 s)
         have d1 := K2.cell 1 rfl
         have g1 := K2.frozen 1
         have Q1 := Lib.hid (K2.set 1 (.int .i64 ((t : Int) + 1)))
         clear K1 K2))
    go_region
    all_goals go_wp2_with fail
    go_ret
    exact ⟨rfl, (Out.set (p := ⟨b, 1, none⟩) (Out.set (p := ⟨b, 0, none⟩) ((Out.refl (fun j => j = b) w).new B1) (.inl rfl) _) (.inl rfl) _).drew, .inl ⟨trivial, Q1.out⟩⟩
/-- A filter among the blocks that came since w. -/
structure FIn (w : World) (b : Nat) (x : Int) (t p : Nat) (wr : World) : Prop where
  fil : FilB wr b x t p
  new : w.heap.size ≤ b
  low : Below w.heap.size w wr
theorem FIn.kept {w wr w' : World} {b t p : Nat} {x : Int} (h : FIn w b x t p wr) (B : Below wr.heap.size wr w') : FIn w b x t p w' := ⟨Blk.kept h.fil B, h.new, new_then h.low B⟩
theorem FIn.draw {w wr : World} {b t p : Nat} {x : Int} (h : FIn w b x t p wr) (n : Nat) : FIn w b x t p (wr.drewN n) := ⟨h.fil, h.new, new_draw h.low n⟩
def NewR (w : World) (e : Ending) (w' : World) : Prop := ∃ b, e = .returned (.pointer (some ⟨b, 0, none⟩)) ∧ FIn w b 0 0 0 w'
/-- A stamp that is taken, one that is not. -/
def GivesR (w : World) (b : Nat) (r : Bool) (x : Int) (t p : Nat) (e : Ending) (w' : World) : Prop := e = .returned (.bool r) ∧ FIn w b x t p w'
theorem FIn.out {w wr w' : World} {b t p t' p' : Nat} {x x' : Int} (h : FIn w b x t p wr) (o : Out (fun j => j = b) wr w') (k : FilB w' b x' t' p') : FIn w b x' t' p' w' :=
  ⟨k, h.new, h.low.trans (o.below h.low.size (fun j hj => by subst hj; exact h.new))⟩
theorem FIn.yes {w wr : World} {b t p : Nat} {s x : Int} (h : FIn w b x t p wr) (hs : 0 ≤ s ∧ s ≤ 4294967295) (hx : 0 ≤ x ∧ x ≤ 4294967295) (ht : t ≤ 1000) (hp : p ≤ 1000) (hn : nwR s x t = true) :
    Calls Try.prog 19 #[.pointer (some ⟨b, 0, none⟩), .int .u32 s] wr (GivesR w b true s (t + 1) p) := by
  refine (take18_any b s x t p wr h.fil hs hx ht hp).mono ?_
  rintro e w' ⟨he, ho, ⟨_, k⟩ | ⟨h2, _⟩⟩
  · exact ⟨by rw [he, hn], h.out ho k⟩
  · rw [hn] at h2; cases h2
theorem FIn.no {w wr : World} {b t p : Nat} {s x : Int} (h : FIn w b x t p wr) (hs : 0 ≤ s ∧ s ≤ 4294967295) (hx : 0 ≤ x ∧ x ≤ 4294967295) (ht : t ≤ 1000) (hp : p ≤ 1000) (hn : nwR s x t = false) :
    Calls Try.prog 19 #[.pointer (some ⟨b, 0, none⟩), .int .u32 s] wr (GivesR w b false x t (p + 1)) := by
  refine (take18_any b s x t p wr h.fil hs hx ht hp).mono ?_
  rintro e w' ⟨he, ho, ⟨h2, _⟩ | ⟨_, k⟩⟩
  · rw [hn] at h2; cases h2
  · exact ⟨by rw [he, hn], h.out ho k⟩
end Go.Proofs.Ytfoonfmhamaclaa
