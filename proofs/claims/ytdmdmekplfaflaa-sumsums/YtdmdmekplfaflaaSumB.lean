/- Package sum: Sum and Verify of one part, of two, of three; the document's Sum; the chapter's example. -/
import Derived.Test.YtdmdmekplfaflaaSumA
import Derived.Test.YtdmdmekplfaflaaRowG
namespace Go.Proofs.Ytdmdmekplfaflaa
open Go.RowKit
set_option linter.unusedVariables false

theorem pt_low {w : World} {p : Pt} (h : PtAt w p) (hn : p.n ≤ 100000) : p.xs.length ≤ 100000 := by rw [h.2.1]; exact hn
theorem sumOne_any (p : Pt) (w : World) (t : TypeId) (g : Nat) (hg : w.heap.size = g) (h : PtAt w p) (hn : p.n ≤ 100000) :
    Calls Try.prog 6 #[.slice (some ⟨g, 0, none⟩) 1 1] (w.alloc (.cells #[.slice p.A p.n p.c] t)) fun e w' => e = .returned (.int .u16 (ckS p.xs)) ∧ w.alloc (.cells #[.slice p.A p.n p.c] t) = w' := by
  subst hg
  have e : allS [p] = p.xs := by simp [allS]
  have := sumAll_any w.heap.size [p] 1 1 _ (parts_new (by simpa using h) t (vs := #[.slice p.A p.n p.c]) rfl rfl) rfl (by rw [e]; have := pt_low h hn; omega) (by decide)
  rwa [e] at this
theorem verOne_any (p : Pt) (w : World) (t : TypeId) (g : Nat) (hg : w.heap.size = g) (h : PtAt w p) (hn : p.n ≤ 100000) :
    Calls Try.prog 8 #[.slice (some ⟨g, 0, none⟩) 1 1] (w.alloc (.cells #[.slice p.A p.n p.c] t)) fun e w' => e = .returned (.bool (decide (ckS p.xs = 0))) ∧ w.alloc (.cells #[.slice p.A p.n p.c] t) = w' := by
  subst hg
  have e : allS [p] = p.xs := by simp [allS]
  have := verAll_any w.heap.size [p] 1 1 _ (parts_new (by simpa using h) t (vs := #[.slice p.A p.n p.c]) rfl rfl) rfl (by rw [e]; have := pt_low h hn; omega) (by decide)
  rwa [e] at this
theorem sumTwo_any (p q : Pt) (w : World) (t : TypeId) (g : Nat) (hg : w.heap.size = g) (h : PtAt w p) (h' : PtAt w q) (hn : p.n ≤ 100000) (hn' : q.n ≤ 100000) :
    Calls Try.prog 6 #[.slice (some ⟨g, 0, none⟩) 2 2] (w.alloc (.cells #[.slice p.A p.n p.c, .slice q.A q.n q.c] t)) fun e w' => e = .returned (.int .u16 (ckS (p.xs ++ q.xs))) ∧ w.alloc (.cells #[.slice p.A p.n p.c, .slice q.A q.n q.c] t) = w' := by
  subst hg
  have e : allS [p, q] = p.xs ++ q.xs := by simp [allS]
  have := sumAll_any w.heap.size [p, q] 2 2 _ (parts_new (by simpa using ⟨h, h'⟩) t (vs := #[.slice p.A p.n p.c, .slice q.A q.n q.c]) rfl rfl) rfl (by rw [e, List.length_append]; have := pt_low h hn; have := pt_low h' hn'; omega) (by decide)
  rwa [e] at this
theorem sumThree_any (p q : Pt) (w : World) (t : TypeId) (g : Nat) (hg : w.heap.size = g) (h : PtAt w p) (h' : PtAt w q) (hn : p.n ≤ 100000) (hn' : q.n ≤ 100000) :
    Calls Try.prog 6 #[.slice (some ⟨g, 0, none⟩) 3 3] (w.alloc (.cells #[.slice p.A p.n p.c, .slice none 0 0, .slice q.A q.n q.c] t)) fun e w' => e = .returned (.int .u16 (ckS (p.xs ++ q.xs))) ∧ w.alloc (.cells #[.slice p.A p.n p.c, .slice none 0 0, .slice q.A q.n q.c] t) = w' := by
  subst hg
  have e : allS [p, ⟨none, 0, 0, 0, []⟩, q] = p.xs ++ q.xs := by simp [allS]
  have h0 : PtAt w ⟨none, 0, 0, 0, []⟩ := ⟨.inl rfl, rfl, by intro x hx; cases hx⟩
  have := sumAll_any w.heap.size [p, ⟨none, 0, 0, 0, []⟩, q] 3 3 _ (parts_new (by simpa using ⟨h, h0, h'⟩) t (vs := #[.slice p.A p.n p.c, .slice none 0 0, .slice q.A q.n q.c]) rfl rfl) rfl (by rw [e, List.length_append]; have := pt_low h hn; have := pt_low h' hn'; omega) (by decide)
  rwa [e] at this

def RsI (xs : List Int) (n : Nat) (w : World) (gh : Nat) (vs vi : Value) (wr : World) : Prop :=
  ∃ k : Nat, vi = .int .i64 (k : Int) ∧ n + 1 - k = gh ∧ k % 2 = 0 ∧ k ≤ n + 1 ∧ vs = .int .i64 (rdS (smS 0 (xs.take k))) ∧ w = wr
theorem sm_pair {xs : List Int} {k : Nat} (h : k + 1 < xs.length) (hk : k % 2 = 0) : smS 0 (xs.take (k + 2)) = smS 0 (xs.take k) + ((xs[k]?.getD 0) * 256 + xs[k + 1]?.getD 0) := by
  rw [sm_snoc 0 h, sm_snoc 0 (by omega), Nat.zero_add, Nat.zero_add, wt_even hk, wt_odd (by omega)]; omega
theorem sm_last {xs : List Int} {k : Nat} (h : k + 1 = xs.length) (hk : k % 2 = 0) : smS 0 (xs.take (k + 2)) = smS 0 (xs.take k) + (xs[k]?.getD 0) * 256 := by
  rw [List.take_of_length_le (i := k + 2) (by omega), ← List.take_of_length_le (i := k + 1) (l := xs) (by omega), sm_snoc 0 (by omega), Nat.zero_add, wt_even hk]
  rw [List.take_of_length_le (i := k + 1) (by omega)]; omega
set_option maxHeartbeats 1000000 in
theorem refSum10_any (A : Option Addr) (n c g : Nat) (xs : List Int) (w : World) (h : LsK .u8 w g A xs) (hn : xs.length = n) (hb : bytS xs) (hm : n ≤ 100000) :
    Calls Try.prog 7 #[.slice A n c] w fun e w' => e = .returned (.int .u16 (ckS xs)) ∧ w = w' := by
  have HV := Lib.hid h
  have HN := Lib.hid hn
  have HB := Lib.hid hb
  clear h hn hb
  go_enter Try.func7, Try.ntmps7
  go_wp2_with fail
  go_loopg [3, 4] (n + 1) (fun gh vs vi wr => RsI xs n w gh vs vi wr)
  case atStart => exact ⟨0, rfl, rfl, rfl, by omega, rfl, rfl⟩
  case round =>
    obtain ⟨k, rfl, rfl, hev, hk, rfl, rfl⟩ := hrel
    have hr := rdS_bd (sm_bd 0 _ (byt_take HB.out k)).1
    by_cases hlt : k < n
    · have k0 : (0 : Int) ≤ (k : Int) := by omega
      have k1 : (k : Int) < (n : Int) := by omega
      have hk2 : k < xs.length := by rw [HN.out]; exact hlt
      obtain ⟨x0, x1⟩ := byt_at HB.out hk2
      have hp := (sm_bd 0 _ (byt_take HB.out k)).1
      have V := HV.out
      rcases V with h0 | ⟨off, rfl, hc⟩
      · simp [h0] at hk2
      have c0 := hc k hk2
      by_cases h2 : k + 1 < n
      · have k2 : (k : Int) + 1 < (n : Int) := by omega
        have hk3 : k + 1 < xs.length := by rw [HN.out]; exact h2
        obtain ⟨y0, y1⟩ := byt_at HB.out hk3
        have c1 := hc (k + 1) hk3
        have ES := Lib.hid (sm_pair hk3 hev)
        generalize xs[k]?.getD 0 = x at c0 x0 x1 ES
        generalize xs[k + 1]?.getD 0 = y at c1 y0 y1 ES
        generalize smS 0 (xs.take k) = t at *
        have EA := Lib.hid (rd_add (a := t) (v := x * 256 + y) hp (by omega) (by omega))
        generalize rdS t = r at *
        obtain ⟨r0, r1⟩ := hr
        clear hc hk2 hk3 hp
        by_cases hov : 65535 < r + (x * 256 + y)
        · have EB : Hid (rdS (t + (x * 256 + y)) = r + (x * 256 + y) - 65536 + 1) := Lib.hid (by rw [EA.out, if_pos hov])
          clear EA
          go_wp2_with fail
          go_roundg (n + 1 - (k + 2))
          case measure => omega
          case rel => exact ⟨k + 2, by go_num, rfl, by omega, by omega, by rw [ES.out, EB.out], rfl⟩
        · have EB : Hid (rdS (t + (x * 256 + y)) = r + (x * 256 + y)) := Lib.hid (by rw [EA.out, if_neg hov])
          clear EA
          go_wp2_with fail
          go_roundg (n + 1 - (k + 2))
          case measure => omega
          case rel => exact ⟨k + 2, by go_num, rfl, by omega, by omega, by rw [ES.out, EB.out], rfl⟩
      · have k2 : ¬ (k : Int) + 1 < (n : Int) := by omega
        have hk3 : k + 1 = xs.length := by rw [HN.out]; omega
        have ES := Lib.hid (sm_last hk3 hev)
        generalize xs[k]?.getD 0 = x at c0 x0 x1 ES
        generalize smS 0 (xs.take k) = t at *
        have EA := Lib.hid (rd_add (a := t) (v := x * 256) hp (by omega) (by omega))
        generalize rdS t = r at *
        obtain ⟨r0, r1⟩ := hr
        clear hc hk2 hk3 hp
        by_cases hov : 65535 < r + x * 256
        · have EB : Hid (rdS (t + x * 256) = r + x * 256 - 65536 + 1) := Lib.hid (by rw [EA.out, if_pos hov])
          clear EA
          go_wp2_with fail
          go_roundg (n + 1 - (k + 2))
          case measure => omega
          case rel => exact ⟨k + 2, by go_num, rfl, by omega, by omega, by rw [ES.out, EB.out], rfl⟩
        · have EB : Hid (rdS (t + x * 256) = r + x * 256) := Lib.hid (by rw [EA.out, if_neg hov])
          clear EA
          go_wp2_with fail
          go_roundg (n + 1 - (k + 2))
          case measure => omega
          case rel => exact ⟨k + 2, by go_num, rfl, by omega, by omega, by rw [ES.out, EB.out], rfl⟩
    · have e1 : xs.take k = xs := List.take_of_length_le (by have := HN.out; omega)
      rw [e1] at hr ⊢
      have k1 : (n : Int) ≤ (k : Int) := by omega
      have ES : Hid (ckS xs = 65535 - rdS (smS 0 xs)) := Lib.hid rfl
      generalize rdS (smS 0 xs) = r at *
      obtain ⟨r0, r1⟩ := hr
      have e2 : IntKind.u16.wrap (65535 - r) = 65535 - r := by rw [IntKind.wrap_u16]; omega
      clear e1
      go_wp2_with fail
      go_ret
      exact ⟨ret_int (by rw [ES.out]), rfl⟩

theorem at_ls {k : IntKind} {w : World} {g : Nat} {xs : List Int} {vs : List Value} (hv : xs.map (Value.int k) = vs) (h : At w g vs) : LsK k w g (some ⟨g, 0, none⟩) xs :=
  .inr ⟨0, rfl, fun i hi => by rw [Nat.zero_add]; exact h.cell i (by rw [← hv, List.getElem?_map, List.getElem?_eq_getElem hi]; rfl)⟩
/-- The example's bytes, in memory. -/
def exV : List Value := [.int .u8 0, .int .u8 1, .int .u8 242, .int .u8 3, .int .u8 244, .int .u8 245, .int .u8 246, .int .u8 247]
theorem ex_byt : bytS [0, 1, 242, 3, 244, 245, 246, 247] := by unfold bytS; decide
theorem ex_sum : ckS [0, 1, 242, 3, 244, 245, 246, 247] = 8717 := by decide +kernel
theorem ex_at (w : World) (t : TypeId) : PtAt (w.alloc (.cells #[.int .u8 0, .int .u8 1, .int .u8 242, .int .u8 3, .int .u8 244, .int .u8 245, .int .u8 246, .int .u8 247] t)) ⟨some ⟨w.heap.size, 0, none⟩, 8, 8, w.heap.size, [0, 1, 242, 3, 244, 245, 246, 247]⟩ :=
  ⟨at_ls (vs := exV) rfl (At.new w exV t), rfl, ex_byt⟩
theorem ex_any (w : World) (t t' : TypeId) (g : Nat) (hg : w.heap.size + 1 = g) : Calls Try.prog 6 #[.slice (some ⟨g, 0, none⟩) 1 1] ((w.alloc (.cells #[.int .u8 0, .int .u8 1, .int .u8 242, .int .u8 3, .int .u8 244, .int .u8 245, .int .u8 246, .int .u8 247] t)).alloc (.cells #[.slice (some ⟨w.heap.size, 0, none⟩) 8 8] t')) fun e w' => e = .returned (.int .u16 8717) ∧ Below w.heap.size w w' := by
  subst hg
  rw [← alloc_size w (.cells #[.int .u8 0, .int .u8 1, .int .u8 242, .int .u8 3, .int .u8 244, .int .u8 245, .int .u8 246, .int .u8 247] t)]
  refine (sumOne_any _ _ t' _ rfl (ex_at w t) (show 8 ≤ 100000 by decide)).mono ?_
  rintro e w' ⟨rfl, rfl⟩
  exact ⟨ret_int ex_sum, new_alloc (new_alloc (new_refl w) _) _⟩
theorem works10_any (w : World) : Calls Try.prog 9 #[] w fun e w' => e = .returned (.bool true) ∧ Below w.heap.size w w' := by
  go_enter Try.func9, Try.ntmps9
  go_wp2_with (first
    | (go_at_call 6; refine (ex_any w _ _ _ rfl).mono ?_; rintro e w' ⟨rfl, B1⟩))
  go_ret
  exact ⟨rfl, B1⟩
end Go.Proofs.Ytdmdmekplfaflaa
