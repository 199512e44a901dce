/- Package count: many packets; the three bits, the fields, the option. The document's own; the chapter's example. -/
import Derived.Test.YtdibhpiafipibaaCntA
import Derived.Test.YtdibhpiafipibaaOptR
import Derived.ChangeKeysEq
import Derived.StillTailTactics
namespace Go.Proofs.Ytdibhpiafipibaa
open Go.RowKit
set_option linter.unusedVariables false

abbrev cnV (c : Cn) : List Value := [.int .i64 c.cep, .int .i64 c.ceb, .int .i64 c.e0, .int .i64 c.e1]
theorem cnt_set {w : World} {g : Nat} {c : Cn} (h : Blk w g (cnV c) 23) (d : Cn) :
    Blk ((((w.setCell ⟨g, 0, none⟩ (.int .i64 d.cep)).setCell ⟨g, 1, none⟩ (.int .i64 d.ceb)).setCell ⟨g, 2, none⟩ (.int .i64 d.e0)).setCell ⟨g, 3, none⟩ (.int .i64 d.e1)) g (cnV d) 23 :=
  (((h.set 0 (.int .i64 d.cep)).set 1 (.int .i64 d.ceb)).set 2 (.int .i64 d.e0)).set 3 (.int .i64 d.e1)
theorem far4 {w : World} {g p : Nat} {vs : List Value} {t : TypeId} (h : Blk w g vs t) (hp : g ≠ p) (a b c d : Value) :
    Blk ((((w.setCell ⟨p, 0, none⟩ a).setCell ⟨p, 1, none⟩ b).setCell ⟨p, 2, none⟩ c).setCell ⟨p, 3, none⟩ d) g vs t :=
  (((h.far (p := ⟨p, 0, none⟩) hp a).far (p := ⟨p, 1, none⟩) hp b).far (p := ⟨p, 2, none⟩) hp c).far (p := ⟨p, 3, none⟩) hp d
theorem low4 {w0 w : World} {p : Nat} (h : Below w0.heap.size w0 w) (hp : w0.heap.size ≤ p) (a b c d : Value) :
    Below w0.heap.size w0 ((((w.setCell ⟨p, 0, none⟩ a).setCell ⟨p, 1, none⟩ b).setCell ⟨p, 2, none⟩ c).setCell ⟨p, 3, none⟩ d) :=
  new_set (new_set (new_set (new_set h (p := ⟨p, 0, none⟩) hp a) (p := ⟨p, 1, none⟩) hp b) (p := ⟨p, 2, none⟩) hp c) (p := ⟨p, 3, none⟩) hp d
/-- While packets are gone through: the count so far, the answer's room. -/
structure CntAt (w wr : World) (c : Cn) : Prop where
  cnt : Blk wr w.heap.size (cnV c) 23
  res : Blk wr (w.heap.size + 1) [.int .i64 0, .int .i64 0, .int .i64 0, .int .i64 0] 23
  low : Below w.heap.size w wr
theorem cnt_start (w : World) (c : Cn) : CntAt w ((w.alloc (.cells #[.int .i64 c.cep, .int .i64 c.ceb, .int .i64 c.e0, .int .i64 c.e1] 23)).alloc (.cells #[.int .i64 0, .int .i64 0, .int .i64 0, .int .i64 0] 23)) c :=
  ⟨(Blk.new w (cnV c) _).alloc _, Blk.newAt (alloc_size w _) [.int .i64 0, .int .i64 0, .int .i64 0, .int .i64 0] _, new_alloc (new_alloc (new_refl w) _) _⟩
theorem cnt_more {w wr w1 : World} {c d : Cn} (h : CntAt w wr c) (B : Below wr.heap.size wr w1) : CntAt w ((((w1.setCell ⟨w.heap.size, 0, none⟩ (.int .i64 d.cep)).setCell ⟨w.heap.size, 1, none⟩ (.int .i64 d.ceb)).setCell ⟨w.heap.size, 2, none⟩ (.int .i64 d.e0)).setCell ⟨w.heap.size, 3, none⟩ (.int .i64 d.e1)) d :=
  ⟨cnt_set (h.cnt.kept B) d, far4 (h.res.kept B) (by omega) _ _ _ _, low4 (new_then h.low B) (Nat.le_refl _) _ _ _ _⟩
def AllI15 (w : World) (c : Cn) (b : Int) (ks : List Int) (N gh : Nat) (vi : Value) (wr : World) : Prop := ∃ i : Nat, vi = .int .i64 (i : Int) ∧ N - i = gh ∧ i ≤ N ∧ CntAt w wr (allC c b (ks.take i))
set_option maxHeartbeats 1000000 in
theorem all15_any (c : Cn) (b : Int) (g N cp : Nat) (A : Option Addr) (ks : List Int) (w : World) (ok : CnOk c) (hl : LsK .i64 w g A ks) (hN : ks.length = N) (hm : N ≤ 1000000) :
    Calls Try.prog 8 #[.agg #[.int .i64 c.cep, .int .i64 c.ceb, .int .i64 c.e0, .int .i64 c.e1], .slice A N cp, .int .i64 b] w (CntIs w (allC c b ks)) := by
  have S := Lib.hid (cnt_start w c)
  have HL := Lib.hid hl
  have HN := Lib.hid hN
  have OK := Lib.hid ok
  clear hl hN ok
  unfold CntIs
  go_enter Try.func8, Try.ntmps8
  go_wp2_with fail
  go_loopg [11] N (fun gh vi wr => AllI15 w c b ks N gh vi wr)
  case atStart => exact ⟨0, rfl, rfl, by omega, by rw [allC_nil]; exact S.out⟩
  case round =>
    clear S
    obtain ⟨i, rfl, rfl, hi, C⟩ := hrel
    have HC := Lib.hid C
    have c0 := C.cnt.cell 0 rfl
    have c1 := C.cnt.cell 1 rfl
    have c2 := C.cnt.cell 2 rfl
    have c3 := C.cnt.cell 3 rfl
    by_cases hlt : i < N
    · have k0 : (0 : Int) ≤ (i : Int) := by omega
      have k1 : (i : Int) < (N : Int) := by omega
      have LS := HL.out.kept C.low
      rcases LS with rfl | ⟨off, rfl, hc⟩
      · have := HN.out; simp at this; omega
      have z0 := hc i (by have := HN.out; omega)
      have HS := Lib.hid (allC_snoc c b ks (i := i) (by have := HN.out; omega))
      have OKI := Lib.hid (allC_ok OK.out b (ks.take i))
      clear C hc
      generalize allC c b (ks.take i) = d at *
      rw [show ks[i]?.getD 0 = bF ks i from rfl] at z0
      generalize bF ks i = k at *
      have f0 := HC.out.cnt.frozen 0
      have f1 := HC.out.cnt.frozen 1
      have f2 := HC.out.cnt.frozen 2
      have f3 := HC.out.cnt.frozen 3
      go_wp2_with (first
        | (go_at_call 6; refine (take15_any d k b _ OKI.out).mono ?_; rintro e w1 ⟨rfl, B⟩
           have D := cnt_more (d := takC d k b) HC.out B
           have K := HC.out.cnt.kept B
           have d0 := K.cell 0 rfl
           have d1 := K.cell 1 rfl
           have d2 := K.cell 2 rfl
           have d3 := K.cell 3 rfl
           have e0 := K.frozen 0
           have e1 := K.frozen 1
           have e2 := K.frozen 2
           have e3 := K.frozen 3))
      go_roundg (N - (i + 1))
      case measure => omega
      case rel => exact ⟨i + 1, by go_num, rfl, by omega, by rw [HS.out]; exact D⟩
    · obtain rfl : i = N := by omega
      rw [show ks.take i = ks from by rw [← HN.out]; exact List.take_length] at *
      have r0 := C.res.cell 0 rfl
      have r1 := C.res.cell 1 rfl
      have r2 := C.res.cell 2 rfl
      have r3 := C.res.cell 3 rfl
      have f0 := C.res.frozen 0
      have f1 := C.res.frozen 1
      have f2 := C.res.frozen 2
      have f3 := C.res.frozen 3
      have L := C.low
      clear C
      obtain ⟨d, hd⟩ : ∃ d, allC c b ks = d := ⟨_, rfl⟩
      rw [hd] at c0 c1 c2 c3
      have HD := Lib.hid hd
      clear hd
      go_wp2_with fail
      exact bodyPost_ret (v := .agg #[.int .i64 d.cep, .int .i64 d.ceb, .int .i64 d.e0, .int .i64 d.e1]) (by simp [results, Try.results8, go_sem, r0, r1, r2, r3]) rfl ⟨by rw [HD.out], low4 L (Nat.le_succ _) _ _ _ _⟩

theorem start15_any (n : Int) (w : World) : Calls Try.prog 9 #[.int .i64 n] w (CntIs w ⟨n, 0, 1, 1⟩) := by
  unfold CntIs
  go_enter Try.func9, Try.ntmps9
  go_wp2_with fail
  exact bodyPost_ret (v := .agg #[.int .i64 n, .int .i64 0, .int .i64 1, .int .i64 1]) (by simp [results, Try.results9, go_sem]) rfl ⟨rfl, new_alloc (new_refl w) _⟩
theorem ace15_any (c : Cn) (w : World) (h : i64R c.cep) : Calls Try.prog 12 #[.agg #[.int .i64 c.cep, .int .i64 c.ceb, .int .i64 c.e0, .int .i64 c.e1]] w fun e w' => e = .returned (.int .u8 (c.cep % 8)) ∧ Below w.heap.size w w' := by
  unfold i64R at h
  have e : fmd c.cep 8 = c.cep % 8 := by rw [fmd, if_neg (by omega)]
  have H := Lib.hid (fun w => satMod_any c.cep 8 w h (by omega))
  rw [e] at H
  have b0 : 0 ≤ c.cep % 8 := by omega
  have b1 : c.cep % 8 < 8 := by omega
  generalize c.cep % 8 = q at *
  clear e
  go_enter Try.func12, Try.ntmps12
  go_wp2_with (go_at_call 23; refine (H.out _).mono ?_; rintro e w' ⟨rfl, rfl⟩)
  go_ret
  exact ⟨rfl, new_alloc (new_refl w) _⟩
theorem refLow15_any (x m : Int) (w : World) (h : i64R x) (hm : 0 < m ∧ m ≤ 9223372036854775807) : Calls Try.prog 13 #[.int .i64 x, .int .i64 m] w fun e w' => e = .returned (.int .i64 (x % m)) ∧ w = w' := by
  unfold i64R at h
  have r := tm_bd x m (by omega)
  have hf : fmd x m = x % m := by rw [fmd, if_neg (by omega)]
  by_cases t3 : x.tmod m < 0
  · have T := Lib.hid ((fmd_more x m (by omega) t3).symm.trans hf)
    clear hf
    go_enter Try.func13, Try.ntmps13
    go_wp2_with fail
    go_ret
    exact ⟨ret_int T.out, rfl⟩
  · have T := Lib.hid ((fmd_plain x m (by omega) (by omega)).symm.trans hf)
    clear hf
    go_enter Try.func13, Try.ntmps13
    go_wp2_with fail
    go_ret
    exact ⟨ret_int T.out, rfl⟩
end Go.Proofs.Ytdibhpiafipibaa
