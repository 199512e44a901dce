/- Package heap: Push. -/
import Derived.Test.YtmdlbjeiokadaaaHeapD
import Derived.Deep.CutBlock
import Derived.Deep.DeepCutAuto
namespace Go.Proofs.Ytmdlbjeiokadaaa
open Go.RowKit
set_option linter.unusedVariables false

theorem push_nilH (x : Ev) (w : World) :
    Calls Try.prog 12 #[.pointer none, aggE x] w fun e w' => e = .returned (.tuple #[]) ∧ Below w.heap.size w w' := by
  go_enter Try.func12, Try.ntmps12
  go_wp2
  refine bodyPost_ret (results_none rfl _ _ _) rfl ?_
  exact ⟨rfl, new_alloc (new_refl w) _⟩

/-- Behind Push: a heap of one more. -/
def PushedH (w : World) (b : Nat) (V : Value) (zs : List Wt) (p : Int) (x : Ev) (e : Ending) (w' : World) : Prop :=
  e = .returned (.tuple #[]) ∧ ∃ g c zs', HF w' b g (zs.length + 1) c zs' (p + 1) ∧ HeapAt zs' ∧ zs'.Perm (zs ++ [x.wt p]) ∧ (V.ownBlock = some g ∨ w.heap.size ≤ g) ∧ Out (fun k => k = b ∨ V.ownBlock = some k) w w'

theorem pushed_hf {w : World} {b g n c : Nat} {V : Value} {zs : List Wt} {p q : Int} (hB : Blk w b [V, .int .i64 p] 52) (hO : OwnW w 0 (.slice (some ⟨g, 0, none⟩) n c) zs) (hg : g ≠ b) :
    HF ((w.setCell ⟨b, 0, none⟩ (.slice (some ⟨g, 0, none⟩) n c)).setCell ⟨b, 1, none⟩ (.int .i64 q)) b g n c zs q := by
  refine ⟨(hB.set 0 _).set 1 _, ?_, hg⟩
  have o : Out (fun k => k = b) w ((w.setCell ⟨b, 0, none⟩ (.slice (some ⟨g, 0, none⟩) n c)).setCell ⟨b, 1, none⟩ (.int .i64 q)) := Out.set (p := ⟨b, 1, none⟩) (Out.set (p := ⟨b, 0, none⟩) (Out.refl (fun k => k = b) w) (.inl rfl) _) (.inl rfl) _
  exact hO.out o (fun k e => by simp [Value.ownBlock] at e; subst e; exact hg)
theorem pushed_all {w w18 w5 : World} {b g L c : Nat} {V S : Value} {zs : List Wt} {p : Int} {x : Ev} (hL : zs.length = L) (ow : Out (fun k => V.ownBlock = some k) w w18) (hat : V.ownBlock = some g ∨ w.heap.size ≤ g)
    (h5 : Settled ((w18.setCell ⟨b, 0, none⟩ S).setCell ⟨b, 1, none⟩ (.int .i64 (p + 1))) b g (L + 1) c (zs ++ [x.wt p]) (p + 1) w5) : PushedH w b V zs p x (.returned (.tuple #[])) w5 := by
  obtain ⟨zs', h1, h2, h3, o5⟩ := h5
  subst hL
  refine ⟨rfl, g, c, zs', h3, h1, h2, hat, ?_⟩
  have o1 : Out (fun k => k = b ∨ V.ownBlock = some k) w w18 := ow.mono (fun k e => .inr e)
  refine (Out.set (p := ⟨b, 1, none⟩) (Out.set (p := ⟨b, 0, none⟩) o1 (.inl (.inl rfl)) _) (.inl (.inl rfl)) _).trans o5 (fun i hi e => ?_)
  subst e
  rcases hat with h | h
  · exact .inr h
  · omega
set_option maxRecDepth 100000 in
set_option maxHeartbeats 2000000 in
theorem push_raw (b L : Nat) (V : Value) (zs : List Wt) (p : Int) (x : Ev) (w : World) (hB : Blk w b [V, .int .i64 p] 52) (hO : OwnW w 0 V zs) (hV : ∀ g, V.ownBlock = some g → g ≠ b) (hz : HeapAt zs) (hL : zs.length = L) (hl : L < 1000000) (hp0 : 0 ≤ p) (hp : p < 1000000) :
    Calls Try.prog 12 #[.pointer (some ⟨b, 0, none⟩), aggE x] w (PushedH w b V zs p x) := by
  obtain ⟨x0, x1, x2, x3⟩ := x
  have HL := Lib.hid hL
  have HZ := Lib.hid hz
  have hbl := hB.lt
  have hs1 : L + 1 ≤ 1000000000 := by omega
  have BA := new_alloc (new_refl w) (.cells #[.int .i64 x0, .int .i64 x1, .int .i64 x2, .int .i64 x3] 27)
  have hVl : ∀ g, V.ownBlock = some g → g < w.heap.size := fun g e => (World.ownsRow.lt hO g e).2
  have A0 := Blk.new w [.int .i64 x0, .int .i64 x1, .int .i64 x2, .int .i64 x3] 27
  have B1 := hB.kept BA
  have O1 := Lib.hid (hO.kept BA)
  clear hL hz hB hO
  go_enter Try.func12, Try.ntmps12
  go_upto_region 2 with (fail)
  generalize hW : w.alloc (.cells #[.int .i64 x0, .int .i64 x1, .int .i64 x2, .int .i64 x3] 27) = W at *
  have n1 : ¬ b = W.heap.size := by have := B1.lt; omega
  have n2 : ¬ w.heap.size = W.heap.size := by have := A0.lt; omega
  have b0 := B1.cell 0 rfl
  have b1 := B1.cell 1 rfl
  have f0 := B1.frozen 0
  have f1 := B1.frozen 1
  have a0 := A0.cell 0 rfl
  have a1 := A0.cell 1 rfl
  have a2 := A0.cell 2 rfl
  have a3 := A0.cell 3 rfl
  have vb0 : ∀ o, (W.alloc o).cell? ⟨b, 0, none⟩ = some V := fun o => (B1.alloc o).cell 0 rfl
  have vb1 : ∀ o, (W.alloc o).cell? ⟨b, 1, none⟩ = some (.int .i64 p) := fun o => (B1.alloc o).cell 1 rfl
  go_region_law
    (first
      | (refine step_pushE encW_is strW (o := ⟨some 18, _, _, _, _, _⟩) rfl _ _ rfl 0 V zs ⟨x0, x1, x2, x3, p⟩ _ 1 rfl rfl ?_ ?_ (L + 1) (by rw [HL.out]) hs1 (Nat.zero_le _) _ rfl ?_
         · exact At.new W.drew (encW ⟨x0, x1, x2, x3, p⟩) _
         · exact OwnE.alloc (w := W.drew) O1.out _
         intro g18 c18 w18 O18 G18 hat18 hlt18
         have Q18 := out_pushE G18
         have B18 := Blk.out (Blk.alloc (w := W.drew) B1 _) Q18 (fun e => hV _ e rfl)
         have A18 := Blk.out (Blk.alloc (w := W.drew) A0 _) Q18 (fun e => Nat.lt_irrefl _ (hVl _ e))
         have y0 := B18.cell 0 rfl
         have y1 := B18.cell 1 rfl
         have z0 := B18.frozen 0
         have z1 := B18.frozen 1
         have OW : Out (fun k => V.ownBlock = some k) w w18 := ((Out.of BA _).new (by first | exact new_alloc (new_drew (new_refl W)) _ | exact new_drew (new_alloc (new_refl W) _))).trans Q18 (fun _ _ e => e)
         have hat : V.ownBlock = some g18 ∨ w.heap.size ≤ g18 := hat18.imp id (fun e => by rw [e]; exact Nat.le_trans BA.size (by first | exact alloc_le (W := W.drew) (Nat.le_refl _) _ | exact alloc_le (W := W) (Nat.le_refl _) _))
         clear G18 hat18 Q18 A18))
  all_goals
    have hgb : g18 ≠ b := by
      rcases hat with e | e
      · exact hV _ e
      · omega
    have hgb' : ¬ b = g18 := fun e => hgb e.symm
    have HH := Lib.hid (pushed_hf (q := p + 1) B18 O18 hgb)
    have HR := Lib.hid (rise_any b g18 (L + 1) c18 L _ (p + 1) _ HH.out (by omega) (by omega) (by have := rise_push HZ.out ⟨x0, x1, x2, x3, p⟩; rwa [HL.out] at this))
    clear O18 B18 b0 b1 f0 f1 a0 a1 a2 a3 vb0 vb1 HH
    go_wp2_with (first | (go_at_call 26; refine HR.out.mono ?_; rintro e w5 ⟨rfl, h5⟩))
    go_end0
    exact pushed_all HL.out OW hat h5
end Go.Proofs.Ytmdlbjeiokadaaa
