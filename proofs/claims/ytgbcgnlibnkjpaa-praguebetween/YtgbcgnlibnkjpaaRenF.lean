/- Package reno: Grow's two steps; Cut, Collapse, Grow, Start. -/
import Derived.Test.YtgbcgnlibnkjpaaRenE
namespace Go.Proofs.Ytgbcgnlibnkjpaa
open Go.ChangeShapes Go.WideShapes Go.ChangeAt Go.RowKit
set_option linter.unusedVariables false

/-- As RnAt, where block g may have been written. -/
structure RnAo (w : World) (g : Nat) (wr : World) (c d : Rn) : Prop where
  cur : Blk wr w.heap.size (rnV c) 27
  res : Blk wr (w.heap.size + 1) (rnV d) 27
  low : Out (· = g) w wr
theorem RnAt.ao {w wr : World} {c d : Rn} (h : RnAt w wr c d) (g : Nat) : RnAo w g wr c d := ⟨h.cur, h.res, Out.of h.low _⟩
theorem RnAo.kept {w wr w1 : World} {g : Nat} {c d : Rn} (h : RnAo w g wr c d) (B : Below wr.heap.size wr w1) : RnAo w g w1 c d := ⟨h.cur.kept B, h.res.kept B, h.low.new B⟩
theorem RnAo.out {w wr w1 : World} {g : Nat} {c d : Rn} (h : RnAo w g wr c d) (hg : g < w.heap.size) (B : Out (· = g) wr w1) : RnAo w g w1 c d := ⟨h.cur.out B (by omega), h.res.out B (by omega), h.low.trans B fun _ _ h => h⟩
theorem out3 {w wr : World} {g p : Nat} (h : Out (· = g) w wr) (hp : w.heap.size ≤ p) (a b c : Value) : Out (· = g) w (((wr.setCell ⟨p, 0, none⟩ a).setCell ⟨p, 1, none⟩ b).setCell ⟨p, 2, none⟩ c) :=
  ((h.set (p := ⟨p, 0, none⟩) (.inr hp) a).set (p := ⟨p, 1, none⟩) (.inr hp) b).set (p := ⟨p, 2, none⟩) (.inr hp) c
theorem RnAo.setC {w wr : World} {g : Nat} {c d : Rn} (h : RnAo w g wr c d) (x : Rn) : RnAo w g (((wr.setCell ⟨w.heap.size, 0, none⟩ (.int .i64 x.c)).setCell ⟨w.heap.size, 1, none⟩ (.int .i64 x.t)).setCell ⟨w.heap.size, 2, none⟩ (.int .i64 x.k)) x d :=
  ⟨rn_set h.cur x, farN3 h.res (by omega) _ _ _, out3 h.low (Nat.le_refl _) _ _ _⟩
theorem RnAo.setR {w wr : World} {g : Nat} {c d : Rn} (h : RnAo w g wr c d) (x : Rn) : RnAo w g (((wr.setCell ⟨w.heap.size + 1, 0, none⟩ (.int .i64 x.c)).setCell ⟨w.heap.size + 1, 1, none⟩ (.int .i64 x.t)).setCell ⟨w.heap.size + 1, 2, none⟩ (.int .i64 x.k)) c x :=
  ⟨farN3 h.cur (by omega) _ _ _, rn_set h.res x, out3 h.low (Nat.le_succ _) _ _ _⟩
/-- No step, one, or both were taken. -/
def GroI24 (w : World) (g : Nat) (d0 d1 d2 : Rn) (a l : Int) (gh : Nat) (vi : Value) (wr : World) : Prop :=
  (gh = 2 ∧ vi = .int .i64 0 ∧ RnAo w g wr d0 rnO ∧ Blk wr g [.int .i64 a] 2) ∨ (gh = 1 ∧ vi = .int .i64 1 ∧ RnAo w g wr d1 rnO ∧ Blk wr g [.int .i64 l] 2) ∨ (gh = 0 ∧ vi = .int .i64 2 ∧ RnAo w g wr d2 rnO)
def RnIsO (w : World) (g : Nat) (c : Rn) (e : Ending) (w' : World) : Prop := e = .returned (rnW c) ∧ Out (· = g) w w'

set_option maxHeartbeats 2000000 in
theorem goneGrow_any (c : Rn) (a m s : Int) (b g p q : Nat) (w : World) (ha : 0 ≤ a ∧ a ≤ 16777216)
    (hb : Blk w b [.func (.func 35) #[] #[.pointer (some ⟨g, 0, none⟩)], .func (.func 37) #[] #[.pointer (some ⟨g, 0, none⟩), .pointer (some ⟨p, 0, none⟩), .pointer (some ⟨q, 0, none⟩)]] 57)
    (hg : Blk w g [.int .i64 a] 2) (hp : Blk w p [.int .i64 m] 2) (hq : Blk w q [.int .i64 s] 2) (nb : b ≠ g) (np : p ≠ g) (nq : q ≠ g) :
    Calls Try.prog 42 #[rnW c, .int .i64 m, .slice (some ⟨b, 0, none⟩) 2 2] w (RnIsO w g (rnIn (rnG (rnFast (rnIn c m) a) (a - rnF (rnIn c m) a) m s) m)) := by
  have ok := rnIn_ok c m
  have hf := rnF_bd ok ha
  have okc := ok.c
  have hs := rnS_bd m
  unfold RnIsO rnW
  have IN : Hid (∀ w, Calls Try.prog 57 #[.agg #[.int .i64 c.c, .int .i64 c.t, .int .i64 c.k], .int .i64 m] w fun e w' => e = .returned (rnW (rnIn c m)) ∧ Below w.heap.size w w') := Lib.hid (fun w => within24_any c m w)
  have FA : Hid (∀ w, Blk w g [.int .i64 a] 2 → Calls Try.prog 35 #[rnW (rnIn c m), .pointer (some ⟨g, 0, none⟩)] w (FastIs w g (rnFast (rnIn c m) a) (a - rnF (rnIn c m) a))) := Lib.hid (fun w h => fast_any (rnIn c m) a m g w ok ha h)
  have SL : Hid (∀ w, w.cell? ⟨g, 0, none⟩ = some (.int .i64 (a - rnF (rnIn c m) a)) → w.cell? ⟨p, 0, none⟩ = some (.int .i64 m) → w.cell? ⟨q, 0, none⟩ = some (.int .i64 s) →
      Calls Try.prog 37 #[rnW (rnFast (rnIn c m) a), .pointer (some ⟨g, 0, none⟩), .pointer (some ⟨p, 0, none⟩), .pointer (some ⟨q, 0, none⟩)] w fun e w' => e = .returned (rnW (rnG (rnFast (rnIn c m) a) (a - rnF (rnIn c m) a) m s)) ∧ Below w.heap.size w w') :=
    Lib.hid (fun w h1 h2 h3 => slow_any (rnFast (rnIn c m) a) _ m s g p q w (show 1 ≤ (rnIn c m).c + rnF (rnIn c m) a ∧ (rnIn c m).c + rnF (rnIn c m) a ≤ _ by omega) ok.k (by omega) h1 h2 h3)
  have EN : Hid (∀ w, Calls Try.prog 57 #[rnW (rnG (rnFast (rnIn c m) a) (a - rnF (rnIn c m) a) m s), .int .i64 m] w fun e w' => e = .returned (rnW (rnIn (rnG (rnFast (rnIn c m) a) (a - rnF (rnIn c m) a) m s) m)) ∧ Below w.heap.size w w') := Lib.hid (fun w => within24_any _ m w)
  have S := Lib.hid (rn_start w c)
  have HB := Lib.hid hb
  have HG := Lib.hid hg
  have HP := Lib.hid hp
  have HQ := Lib.hid hq
  have NB := Lib.hid nb
  have NP := Lib.hid np
  have NQ := Lib.hid nq
  have LG := Lib.hid hg.lt
  clear hb hg hp hq nb np nq ok hf okc hs ha
  obtain ⟨l, hl⟩ : ∃ l, a - rnF (rnIn c m) a = l := ⟨_, rfl⟩
  rw [hl] at FA SL EN ⊢
  obtain ⟨d0, h0⟩ : ∃ d, rnIn c m = d := ⟨_, rfl⟩
  rw [h0] at IN FA SL EN ⊢
  obtain ⟨d1, h1⟩ : ∃ d, rnFast d0 a = d := ⟨_, rfl⟩
  rw [h1] at FA SL EN ⊢
  obtain ⟨d2, h2⟩ : ∃ d, rnG d1 l m s = d := ⟨_, rfl⟩
  rw [h2] at SL EN ⊢
  obtain ⟨e0, he⟩ : ∃ e, rnIn d2 m = e := ⟨_, rfl⟩
  rw [he] at EN ⊢
  clear hl h0 h1 h2 he
  unfold rnW at IN FA SL EN
  go_enter Try.func42, Try.ntmps42
  have c0 := S.out.cur.cell 0 rfl; have c1 := S.out.cur.cell 1 rfl; have c2 := S.out.cur.cell 2 rfl; have f0 := S.out.cur.frozen 0; have f1 := S.out.cur.frozen 1; have f2 := S.out.cur.frozen 2
  go_upto_region 2 with (first
    | (go_at_call 57; refine (IN.out _).mono ?_; rintro e w1 ⟨rfl, B1⟩
       have K := Lib.hid (S.out.kept B1)
       have V := Lib.hid (K.out.setC d0)
       have k0 := K.out.cur.cell 0 rfl; have k1 := K.out.cur.cell 1 rfl; have k2 := K.out.cur.cell 2 rfl; have g0 := K.out.cur.frozen 0; have g1 := K.out.cur.frozen 1; have g2 := K.out.cur.frozen 2))
  obtain ⟨W2, hW2⟩ : ∃ W2, ((w1.setCell ⟨w.heap.size, 0, none⟩ (.int .i64 d0.c)).setCell ⟨w.heap.size, 1, none⟩ (.int .i64 d0.t)).setCell ⟨w.heap.size, 2, none⟩ (.int .i64 d0.k) = W2 := ⟨_, rfl⟩
  replace V : Hid (RnAt w W2 d0 rnO) := Lib.hid (by rw [← hW2]; exact V.out)
  rw [hW2]
  have G2 := Lib.hid (HG.out.kept V.out.low)
  clear hW2 c0 c1 c2 f0 f1 f2 k0 k1 k2 g0 g1 g2 K B1 S IN HG
  go_wp2_with fail
  go_loopg [14] 2 (fun gh vi wr => GroI24 w g d0 d1 d2 a l gh vi wr)
  case atStart => exact .inl ⟨rfl, rfl, V.out.ao g, G2.out⟩
  case round =>
    clear V G2
    rcases hrel with ⟨rfl, rfl, C, G⟩ | ⟨rfl, rfl, C, G⟩ | ⟨rfl, rfl, C⟩
    · have HC := Lib.hid C
      have HG := Lib.hid G
      have b0 := (HB.out.out C.low NB.out).cell 0 rfl
      have c0 := C.cur.cell 0 rfl; have c1 := C.cur.cell 1 rfl; have c2 := C.cur.cell 2 rfl; have f0 := C.cur.frozen 0; have f1 := C.cur.frozen 1; have f2 := C.cur.frozen 2
      clear C G
      go_wp2_with (first
        | (go_at_call 35; refine (FA.out _ HG.out).mono ?_; rintro e w2 ⟨rfl, B2, G2⟩
           have K := Lib.hid (HC.out.out LG.out B2)
           have V := Lib.hid (K.out.setC d1)
           have G3 := Lib.hid (farN3 (p := w.heap.size) G2 (show g ≠ w.heap.size from Nat.ne_of_lt LG.out) (.int .i64 d1.c) (.int .i64 d1.t) (.int .i64 d1.k))
           clear B2 G2
           have l0 := K.out.cur.cell 0 rfl; have l1 := K.out.cur.cell 1 rfl; have l2 := K.out.cur.cell 2 rfl; have g0 := K.out.cur.frozen 0; have g1 := K.out.cur.frozen 1; have g2 := K.out.cur.frozen 2))
      go_roundg 1
      case measure => omega
      case rel => exact .inr (.inl ⟨rfl, by go_num, V.out, G3.out⟩)
    · have HC := Lib.hid C
      have g0 := G.cell 0 rfl
      have b1 := (HB.out.out C.low NB.out).cell 1 rfl
      have p0 := (HP.out.out C.low NP.out).cell 0 rfl
      have q0 := (HQ.out.out C.low NQ.out).cell 0 rfl
      have c0 := C.cur.cell 0 rfl; have c1 := C.cur.cell 1 rfl; have c2 := C.cur.cell 2 rfl; have f0 := C.cur.frozen 0; have f1 := C.cur.frozen 1; have f2 := C.cur.frozen 2
      clear C G
      go_wp2_with (first
        | (go_at_call 37; refine (SL.out _ g0 p0 q0).mono ?_; rintro e w2 ⟨rfl, B2⟩
           have K := Lib.hid (HC.out.kept B2)
           have V := Lib.hid (K.out.setC d2)
           have l0 := K.out.cur.cell 0 rfl; have l1 := K.out.cur.cell 1 rfl; have l2 := K.out.cur.cell 2 rfl; have g0 := K.out.cur.frozen 0; have g1 := K.out.cur.frozen 1; have g2 := K.out.cur.frozen 2))
      go_roundg 0
      case measure => omega
      case rel => exact .inr (.inr ⟨rfl, by go_num, V.out⟩)
    · have HC := Lib.hid C
      have c0 := C.cur.cell 0 rfl; have c1 := C.cur.cell 1 rfl; have c2 := C.cur.cell 2 rfl; have f0 := C.cur.frozen 0; have f1 := C.cur.frozen 1; have f2 := C.cur.frozen 2
      clear C
      go_wp2_with (first
        | (go_at_call 57; refine (EN.out _).mono ?_; rintro e w2 ⟨rfl, B2⟩
           have K := Lib.hid (HC.out.kept B2)
           have V := Lib.hid (K.out.setR e0)
           have r0 := K.out.res.cell 0 rfl; have r1 := K.out.res.cell 1 rfl; have r2 := K.out.res.cell 2 rfl; have g0 := K.out.res.frozen 0; have g1 := K.out.res.frozen 1; have g2 := K.out.res.frozen 2))
      exact bodyPost_ret (v := .agg #[.int .i64 e0.c, .int .i64 e0.t, .int .i64 e0.k]) (by simp [results, Try.results42, go_sem, r0, r1, r2]) rfl ⟨rfl, V.out.low⟩
end Go.Proofs.Ytgbcgnlibnkjpaa
