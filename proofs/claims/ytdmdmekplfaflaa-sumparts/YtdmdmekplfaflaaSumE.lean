/- The document's own Fill of layer 10, where it fills. -/
import Derived.Test.YtdmdmekplfaflaaSumD
namespace Go.Proofs.Ytdmdmekplfaflaa
open Go.RowKit
set_option linter.unusedVariables false

theorem two_below {w : World} {base g n c : Nat} {zs : List Int} (O : OwnB w base (.slice (some ⟨g, 0, none⟩) n c) zs) (p : Nat) (u v : Value) : Below base w ((w.setCell ⟨g, p, none⟩ u).setCell ⟨g, p + 1, none⟩ v) :=
  Below.setCell (p := ⟨g, p + 1, none⟩) (Below.setCell (p := ⟨g, p, none⟩) (Below.refl _ _) (ownLow O).1 _) (ownLow O).1 _
/-- The bytes, two of them 0, in a list of its own. -/
def HoleTo (w : World) (zs : List Int) (n : Nat) (v : Value) (w' : World) : Prop := ∃ g c, v = .slice (some ⟨g, 0, none⟩) n c ∧ OwnB w' w.heap.size (.slice (some ⟨g, 0, none⟩) n c) zs ∧ Below w.heap.size w w'
theorem hole_to {w w' : World} {ys : List Int} {v : Value} {n p k : Nat} (hk : p + 2 = k) (O : OwnB w' w.heap.size v ([] ++ ys.take p ++ [0, 0] ++ ys.drop k)) (B : Below w.heap.size w w') (hl : ys.length = n) (hp : p + 2 ≤ n) : HoleTo w (fillS ys p 0 0) n v w' := by
  subst hk
  have e : [] ++ ys.take p ++ [0, 0] ++ ys.drop (p + 2) = fillS ys p 0 0 := by simp [fillS]
  rw [e] at O
  obtain ⟨g, c, rfl, _, _⟩ := O.some ((fill_len 0 0 (by omega)).trans hl) (by omega)
  exact ⟨g, c, rfl, O, B⟩

set_option maxRecDepth 100000 in
set_option maxHeartbeats 2000000 in
theorem refFill10_yes (b off n c p : Nat) (ys : List Int) (w : World) (h : Src .u8 w (some ⟨b, off, none⟩) n c ys) (hb : bytS ys) (hn : n ≤ 100000) (hc : n ≤ c) (hc2 : c ≤ 9223372036854775807) (hp : p + 2 ≤ n) (h2 : (p : Int) % 2 = 0) :
    Calls Try.prog 11 #[.slice (some ⟨b, off, none⟩) n c, .int .i64 (p : Int)] w (FillTo w (filS ys p) n) := by
  have hl := h.1
  have S1 := Lib.hid (srcTake h p (by omega))
  have S2 := Lib.hid (fun k (hk : p + 2 = k) A hA c' hc' => srcDrop h k (by omega) A hA c' hc')
  have HL : Hid (ys.length = n) := Lib.hid hl.symm
  have HB := Lib.hid hb
  have p0 : (0 : Int) ≤ (p : Int) := by omega
  have p1 : (p : Int) ≤ (n : Int) - 2 := by omega
  have p2 : (p : Int) ≤ (c : Int) := by omega
  obtain ⟨k, hk⟩ : ∃ k, p + 2 = k := ⟨_, rfl⟩
  have p3 : (p : Int) + 2 = (k : Int) := by omega
  have k0 : (0 : Int) ≤ (k : Int) := by omega
  have k1 : (k : Int) ≤ (n : Int) := by omega
  have k2 : k ≤ n := by omega
  have k4 : (k : Int) ≤ 100000 := by omega
  have k5 : IntKind.i64.wrap (k : Int) = (k : Int) := by rw [IntKind.wrap_i64]; omega
  have HK := Lib.hid hk
  have p4 : (n : Int) ≤ (c : Int) := by omega
  have q1 : Hid (([] : List Int).length + (ys.take p).length ≤ 1000000000) := Lib.hid (by rw [List.length_take]; simp; omega)
  have q2 : Hid (([] ++ ys.take p : List Int).length + ([0, 0] : List Int).length ≤ 1000000000) := Lib.hid (by rw [List.nil_append, List.length_take]; simp; omega)
  have q3 : Hid (([] ++ ys.take p ++ [0, 0] : List Int).length + (ys.drop k).length ≤ 1000000000) := Lib.hid (by simp; omega)
  clear h hl hb hk
  go_enter Try.func11, Try.ntmps11
  go_upto_region 3 with (fail)
  go_cut [6] (fun v wx => HoleTo w (fillS ys p 0 0) n v wx)
  case first =>
    by_cases hcap : c = k
    · obtain rfl : n = k := by omega
      obtain rfl : c = n := by omega
      have S3 : Hid (Src .u8 w (some ⟨b, off, none⟩) 0 0 (ys.drop c)) := Lib.hid (by
        have h := S2.out c HK.out (some ⟨b, off, none⟩) (.inr rfl) 0 (fun h => by cases h)
        rwa [Nat.sub_self] at h)
      go_region_held3 (fun w' => True)
        (first | trivial | go_keep)
        (first
          | (refine step_catK elB (o := ⟨some 26, _, _, _, _, _⟩) rfl _ _ rfl w.heap.size _ [] _ _ _ (ys.take p) rfl rfl ?_ ?_ q1.out ?_ _ rfl ?_
             · first | exact S1.out.kept (new_alloc (new_drew (new_refl w)) _) | exact S1.out.kept (new_alloc (new_alloc (new_drew (new_refl w)) _) _)
             · first | exact OwnK.made0 (w := w.drew) (Nat.le_refl _) | exact (OwnK.made0 (w := w.drew) (Nat.le_refl _)).alloc _ | exact made0At w.drew _ _ (Nat.le_refl _) _
             · first | exact alloc_le (W := w.drew) (Nat.le_refl _) _ | exact alloc_le (alloc_le (W := w.drew) (Nat.le_refl _) _) _
             intro v26 w26 O26 G26 hat26
             have B26 : Below w.heap.size w w26 := by
               first
               | exact (new_alloc (new_drew (new_refl w)) _).trans (below_push (OwnK.made0 (k := .u8) (w := w.drew) (Nat.le_refl _)) G26 (alloc_le (W := w.drew) (Nat.le_refl _) _))
               | exact (new_alloc (new_alloc (new_drew (new_refl w)) _) _).trans (below_push ((OwnK.made0 (k := .u8) (w := w.drew) (Nat.le_refl _)).alloc _) G26 (alloc_le (alloc_le (W := w.drew) (Nat.le_refl _) _) _))
               | exact (new_alloc (new_alloc (new_drew (new_refl w)) _) _).trans (below_push (made0At w.drew _ _ (Nat.le_refl _) _) G26 (alloc_le (alloc_le (W := w.drew) (Nat.le_refl _) _) _)))
          | (refine step_catK elB (o := ⟨some 28, _, _, _, _, _⟩) rfl _ _ rfl w.heap.size _ ([] ++ ys.take p) _ 2 2 [0, 0] rfl rfl ?_ ?_ q2.out ?_ _ rfl ?_
             · first
               | exact zz_src (At.new w26 [.int .u8 0, .int .u8 0] _)
               | exact zz_src (grown_at (At.newAt (alloc_size w.drew _) [.int .u8 0, .int .u8 0] _) G26 (far_nx (Nat.lt_succ_self _)))
               | exact zz_src (grown_at (At.alloc (At.new w.drew [.int .u8 0, .int .u8 0] _) _) G26 (far_pv (Nat.lt_succ_self _)))
             · first | exact O26.alloc _ | exact O26
             · first | exact alloc_le B26.size _ | exact B26.size
             intro v28 w28 O28 G28 hat28
             replace B26 : Below w.heap.size w w28 := by
               first
               | exact (B26.alloc B26.size _).trans (below_push (O26.alloc _) G28 (alloc_le B26.size _))
               | exact B26.trans (below_push O26 G28 B26.size))
          | (refine step_catK elB (o := ⟨some 33, _, _, _, _, _⟩) rfl _ _ rfl w.heap.size _ ([] ++ ys.take p ++ [0, 0]) _ _ _ (ys.drop c) rfl rfl ?_ O28 q3.out B26.size _ rfl ?_
             · exact S3.out.kept B26
             intro v33 w33 O33 G33 hat33
             replace B26 : Below w.heap.size w w33 := B26.trans (below_push O28 G33 B26.size)))
      all_goals
        go_wp2_with fail
        go_meet
        case rel => exact hole_to HK.out O33 B26 HL.out hp
    · have p5 : k < c := by omega
      have S3 : Hid (Src .u8 w (some ⟨b, off + k, none⟩) (n - k) (c - k) (ys.drop k)) := Lib.hid (S2.out k HK.out _ (.inl (by rw [Go.WideShapes.add_plain])) _ (fun h => by cases h))
      go_region_held3 (fun w' => True)
        (first | trivial | go_keep)
        (first
          | (refine step_catK elB (o := ⟨some 26, _, _, _, _, _⟩) rfl _ _ rfl w.heap.size _ [] _ _ _ (ys.take p) rfl rfl ?_ ?_ q1.out ?_ _ rfl ?_
             · first | exact S1.out.kept (new_alloc (new_drew (new_refl w)) _) | exact S1.out.kept (new_alloc (new_alloc (new_drew (new_refl w)) _) _)
             · first | exact OwnK.made0 (w := w.drew) (Nat.le_refl _) | exact (OwnK.made0 (w := w.drew) (Nat.le_refl _)).alloc _ | exact made0At w.drew _ _ (Nat.le_refl _) _
             · first | exact alloc_le (W := w.drew) (Nat.le_refl _) _ | exact alloc_le (alloc_le (W := w.drew) (Nat.le_refl _) _) _
             intro v26 w26 O26 G26 hat26
             have B26 : Below w.heap.size w w26 := by
               first
               | exact (new_alloc (new_drew (new_refl w)) _).trans (below_push (OwnK.made0 (k := .u8) (w := w.drew) (Nat.le_refl _)) G26 (alloc_le (W := w.drew) (Nat.le_refl _) _))
               | exact (new_alloc (new_alloc (new_drew (new_refl w)) _) _).trans (below_push ((OwnK.made0 (k := .u8) (w := w.drew) (Nat.le_refl _)).alloc _) G26 (alloc_le (alloc_le (W := w.drew) (Nat.le_refl _) _) _))
               | exact (new_alloc (new_alloc (new_drew (new_refl w)) _) _).trans (below_push (made0At w.drew _ _ (Nat.le_refl _) _) G26 (alloc_le (alloc_le (W := w.drew) (Nat.le_refl _) _) _)))
          | (refine step_catK elB (o := ⟨some 28, _, _, _, _, _⟩) rfl _ _ rfl w.heap.size _ ([] ++ ys.take p) _ 2 2 [0, 0] rfl rfl ?_ ?_ q2.out ?_ _ rfl ?_
             · first
               | exact zz_src (At.new w26 [.int .u8 0, .int .u8 0] _)
               | exact zz_src (grown_at (At.newAt (alloc_size w.drew _) [.int .u8 0, .int .u8 0] _) G26 (far_nx (Nat.lt_succ_self _)))
               | exact zz_src (grown_at (At.alloc (At.new w.drew [.int .u8 0, .int .u8 0] _) _) G26 (far_pv (Nat.lt_succ_self _)))
             · first | exact O26.alloc _ | exact O26
             · first | exact alloc_le B26.size _ | exact B26.size
             intro v28 w28 O28 G28 hat28
             replace B26 : Below w.heap.size w w28 := by
               first
               | exact (B26.alloc B26.size _).trans (below_push (O26.alloc _) G28 (alloc_le B26.size _))
               | exact B26.trans (below_push O26 G28 B26.size))
          | (refine step_catK elB (o := ⟨some 33, _, _, _, _, _⟩) rfl _ _ rfl w.heap.size _ ([] ++ ys.take p ++ [0, 0]) _ _ _ (ys.drop k) rfl rfl ?_ O28 q3.out B26.size _ rfl ?_
             · exact S3.out.kept B26
             intro v33 w33 O33 G33 hat33
             replace B26 : Below w.heap.size w w33 := B26.trans (below_push O28 G33 B26.size)))
      all_goals
        go_wp2_with fail
        go_meet
        case rel => exact hole_to HK.out O33 B26 HL.out hp
  case rest =>
    obtain ⟨g, cg, rfl, O1, B1⟩ := hcut
    clear S1 S2 q1 q2 q3 p3 k0 k1 k2 k4 k5 HK
    have hb0 := fill_byt (p := p) (a := 0) (b := 0) HB.out (by omega) (by omega)
    have HLn : Hid ((fillS ys p 0 0).length = n) := Lib.hid ((fill_len 0 0 (by rw [HL.out]; exact hp)).trans HL.out)
    have H0 := Lib.hid hb0
    have ES : Hid (ckS (fillS ys p 0 0) = chkS ys p) := Lib.hid rfl
    obtain ⟨x0, x1⟩ := chk_bd HB.out p
    have f0 := ownFroz O1 p
    have f1 := ownFroz O1 (p + 1)
    have c0 := OwnK.cell O1 (i := p) (by have := HLn.out; omega)
    have c1 := OwnK.cell O1 (i := p + 1) (by have := HLn.out; omega)
    have p3 : (p : Int) < (n : Int) := by omega
    have p5 : (p : Int) + 1 < (n : Int) := by omega
    have EF : Hid (fillS (fillS ys p 0 0) p (chkS ys p / 256) (chkS ys p % 256) = filS ys p) := Lib.hid (fill_fill _ _ _ _ (by rw [HL.out]; exact hp))
    have V := Lib.hid (own_ls O1)
    have O2 := ownSet (ownSet O1 p (chkS ys p / 256)) (p + 1) (chkS ys p % 256)
    rw [fill_set _ _ (by rw [HLn.out]; exact hp), EF.out] at O2
    have HO := Lib.hid O2
    have B2 := Lib.hid (two_below O1 p (.int .u8 (chkS ys p / 256)) (.int .u8 (chkS ys p % 256)))
    have HO1 := Lib.hid O1
    clear hb0 O1 O2
    generalize chkS ys p = x at *
    have e0 : IntKind.u16.wrap (x.tdiv 256) = x / 256 := by rw [Int.tdiv_eq_ediv_of_nonneg x0, IntKind.wrap_u16]; omega
    have e1 : IntKind.u8.wrap (x / 256) = x / 256 := by rw [IntKind.wrap_u8]; omega
    have e2 : IntKind.u8.wrap (x % 256) = x % 256 := by rw [IntKind.wrap_u8]; omega
    go_wp2_with (first
      | (go_at_call 7; refine (refSum10_any _ n cg g (fillS ys p 0 0) _ V.out HLn.out H0.out hn).mono ?_; rw [ES.out]; rintro e w1 ⟨rfl, rfl⟩))
    go_ret2
    exact ⟨g, cg, rfl, HO.out, B1.trans B2.out⟩
end Go.Proofs.Ytdmdmekplfaflaa
