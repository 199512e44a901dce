/- Package least: Put; what Least searches with (sort.Search by the library's own contract, laid by hand). -/
import Derived.Test.YtphhcplellpikaaLeaA
import Derived.RegionTactic
import Derived.Shelf.SlSorted.Search
namespace Go.Proofs.Ytphhcplellpikaa
open Go.RowKit
open Go.Sort (grow)
set_option linter.unusedVariables false

/-- Behind Put. -/
def PutL (base : Nat) (w : World) (b : Nat) (W : Int) (V : Value) (zs : List Lc) (e : Ending) (w' : World) : Prop :=
  e = .returned (.tuple #[]) ∧ ∃ V', LF base w' b W V' zs ∧ Out (fun k => k = b ∨ V.ownBlock = some k) w w'
theorem put21_nil (t x : Int) (w : World) : Calls Try.prog 6 #[.pointer none, .int .i64 t, .int .i64 x] w fun e w' => e = .returned (.tuple #[]) ∧ w = w' := by
  go_enter Try.func6, Try.ntmps6
  go_wp2
  refine bodyPost_ret (results_none rfl _ _ _) rfl ?_
  exact ⟨rfl, rfl⟩
theorem put_end {base : Nat} {w w1 w2 : World} {b g n c : Nat} {W : Int} {V V1 : Value} {Z Y : List Lc} {o : Obj} (D : LF base w1 b W V1 Y) (eV : V1.ownBlock = V.ownBlock) (O1 : Out (fun k => k = b) w w1) (G : (w1.alloc o).grownBy w2 V1.ownBlock) (O2 : OwnL w2 base (.slice (some ⟨g, 0, none⟩) n c) Z) (hat : V1.ownBlock = some g ∨ g = (w1.alloc o).heap.size) :
    PutL base w b W V Z (.returned (.tuple #[])) (w2.setCell ⟨b, 1, none⟩ (.slice (some ⟨g, 0, none⟩) n c)) := by
  have hb1 : b < w1.heap.size := D.blk.lt
  have hgb : g ≠ b := by
    rcases hat with h | h
    · exact D.apart g h
    · simp at h; omega
  have Q := out_pushE G
  have B2 := (D.blk.alloc o).out Q (fun h => D.apart b h rfl)
  have OS : Out (fun k => k = b) w2 (w2.setCell ⟨b, 1, none⟩ (.slice (some ⟨g, 0, none⟩) n c)) := Out.set (p := ⟨b, 1, none⟩) (Out.refl (fun k => k = b) w2) (.inl rfl) _
  refine ⟨rfl, _, ⟨B2.set 1 _, O2.out OS (fun k e => by simp [Value.ownBlock] at e; subst e; exact hgb), fun k e => by simp [Value.ownBlock] at e; subst e; exact hgb⟩, ?_⟩
  have o1 : Out (fun k => k = b ∨ V.ownBlock = some k) w (w1.alloc o) := (O1.mono (fun k e => .inl e)).alloc o
  have o2 : Out (fun k => k = b ∨ V.ownBlock = some k) w w2 := o1.trans Q (fun i _ e => .inr (by rw [← eV]; exact e))
  exact o2.set (p := ⟨b, 1, none⟩) (.inl (.inl rfl)) _
set_option maxHeartbeats 1000000 in
theorem put21_any {base : Nat} {b : Nat} {W : Int} {V : Value} {zs : List Lc} {w : World} (h : LF base w b W V zs) (hbase : base ≤ w.heap.size) (hl : zs.length < 1000000) (hr : zs.Pairwise (fun c d => c.x < d.x)) (t x : Int) :
    Calls Try.prog 6 #[.pointer (some ⟨b, 0, none⟩), .int .i64 t, .int .i64 x] w (PutL base w b W V (zs.filter (fun d => decide (d.x < x)) ++ [⟨atL zs t, x⟩])) := by
  have NA := Lib.hid (ahead21_any h t (by omega))
  have CU := Lib.hid (cutL_any h (by omega) hr x)
  have hlen : (zs.filter (fun d => decide (d.x < x))).length < 1000000 := Nat.lt_of_le_of_lt (List.length_filter_le _ _) hl
  generalize zs.filter (fun d => decide (d.x < x)) = Y at *
  generalize atL zs t = A at *
  obtain ⟨n, hn⟩ : ∃ n, Y.length = n := ⟨_, rfl⟩
  have HY := Lib.hid (show Y.length + 1 = n + 1 by omega)
  have HL := Lib.hid (show n + 1 ≤ 1000000000 by omega)
  clear h hl hr hn hlen
  go_enter Try.func6, Try.ntmps6
  go_wp2_with (first
    | (go_at_call 14; refine NA.out.mono ?_; rintro e w1 ⟨rfl, rfl⟩)
    | (go_at_call 15; refine CU.out.mono ?_; rintro e w1 ⟨rfl, V1, D1, e1, O1⟩
       have HD := Lib.hid D1
       have HE := Lib.hid e1
       have c1 := D1.blk.cell 1 rfl
       have hb1 : base ≤ w1.heap.size := Nat.le_trans hbase O1.size
       clear D1 e1)
    | (at_builtin; refine wp_pushE encL_is strL (by rfl) _ _ (by rfl) base V1 Y ⟨A, x⟩ _ 1 (by rfl) (by rfl) (At.new w1 (encL ⟨A, x⟩) _) (OwnE.alloc HD.out.own _) (n + 1) HY.out HL.out (alloc_le hb1 _) _ rfl ?_
       intro g c w2 O2 G2 hat hlt
       have B2 := (HD.out.blk.alloc _).out (out_pushE G2) (fun h => HD.out.apart b h rfl)
       have k1 := B2.cell 1 rfl
       have f1 := B2.frozen 1))
  go_end0
  exact put_end HD.out HE.out O1 G2 O2 hat

/-- How many places are still ahead of the first one that is late enough. -/
theorem count_mono (p : Nat → Bool) : ∀ n, (∀ a b, a ≤ b → b < n → p a = true → p b = true) → ((List.range n).countP (fun i => !p i) ≤ n ∧ (∀ i, i < (List.range n).countP (fun i => !p i) → p i = false) ∧ ((List.range n).countP (fun i => !p i) = n ∨ p ((List.range n).countP (fun i => !p i)) = true))
  | 0, _ => ⟨Nat.le_refl _, fun i hi => by simp at hi, .inl rfl⟩
  | n + 1, h => by
    obtain ⟨h1, h2, h3⟩ := count_mono p n (fun a b hab hb => h a b hab (by omega))
    rw [List.range_succ, List.countP_append]
    generalize (List.range n).countP (fun i => !p i) = m at *
    by_cases hm : m = n
    · subst hm
      cases hp : p m
      · have e : List.countP (fun i => !p i) [m] = 1 := by simp [hp]
        rw [e]
        refine ⟨Nat.le_refl _, fun i hi => ?_, .inl rfl⟩
        by_cases hi2 : i = m
        · subst hi2; exact hp
        · exact h2 i (by omega)
      · have e : List.countP (fun i => !p i) [m] = 0 := by simp [hp]
        rw [e]
        exact ⟨by omega, h2, .inr hp⟩
    · have hp : p n = true := h m n h1 (by omega) (h3.resolve_left hm)
      have e : List.countP (fun i => !p i) [n] = 0 := by simp [hp]
      rw [e]
      exact ⟨by omega, h2, .inr (h3.resolve_left hm)⟩

/-- Which number a function and a type of the library has in this program. -/
def srchRen : Go.Shelf.Ren where
  f := fun n => match n with
    | 16 => 19
    | n => n
  t := fun n => match n with
    | 3 => 3
    | 4 => 4
    | 35 => 49
    | 38 => 50
    | n => n
  g := fun n => n
/-- The body of sort.Search is the library's. -/
theorem srchL : Go.Proofs.SlLaysO.n16 Try.prog srchRen where
  mixed := by kernel_rfl
  f16 := Try.func19.trans (congrArg some (by kernel_rfl))
  t3 := Try.underlying3
  a3 := Try.isAgg3
  z3 := Try.sizeOf3
  v3 := Try.zeroValue3
  t4 := Try.underlying4
  a4 := Try.isAgg4
  z4 := Try.sizeOf4
  v4 := Try.zeroValue4
  t35 := Try.underlying49
  a35 := Try.isAgg49
  z35 := Try.sizeOf49
  v35 := Try.zeroValue49
  t38 := Try.underlying50
  a38 := Try.isAgg50
  z38 := Try.sizeOf50
  v38 := Try.zeroValue50

/-- The closure: is the one at i late enough? -/
theorem late21_any (pb fb b g n c i : Nat) (f a : Int) (w : World) (hi : i < n) (h0 : w.cell? ⟨pb, 0, none⟩ = some (.pointer (some ⟨b, 0, none⟩))) (h1 : w.cell? ⟨fb, 0, none⟩ = some (.int .i64 f))
    (h2 : w.cell? ⟨b, 1, none⟩ = some (.slice (some ⟨g, 0, none⟩) n c)) (h3 : w.cell? ⟨g, i * 2, none⟩ = some (.int .i64 a)) :
    Calls Try.prog 20 #[.int .i64 (i : Int), .pointer (some ⟨pb, 0, none⟩), .pointer (some ⟨fb, 0, none⟩)] w fun e w' => e = .returned (.bool (decide (f < a))) ∧ ∃ q, w' = w.drewN q := by
  have k0 : (0 : Int) ≤ (i : Int) := by omega
  have k1 : (i : Int) < (n : Int) := by omega
  go_enter Try.func20, Try.ntmps20
  go_wp2
  go_region
  all_goals go_wp2
  all_goals go_ret
  all_goals exact ⟨rfl, 1, rfl⟩
end Go.Proofs.Ytphhcplellpikaa
