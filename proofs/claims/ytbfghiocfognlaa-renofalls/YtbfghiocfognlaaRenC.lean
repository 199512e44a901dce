/- Package reno: what begins anew; growing fast, and by a share. -/
import Derived.Test.YtbfghiocfognlaaRenB
namespace Go.Proofs.Ytbfghiocfognlaa
open Go.ChangeShapes Go.WideShapes Go.ChangeAt Go.RowKit
set_option linter.unusedVariables false

theorem hlv_one (x : Int) : hlv x (upto 1 63) = x / 2 := by
  have : upto 1 63 = 1 := by decide
  rw [this]; rfl
theorem rn_far {wr : World} {g p i : Nat} {v : Value} (h : wr.cell? ⟨p, i, none⟩ = some v) (hp : p ≠ g) (a b c : Value) :
    (((wr.setCell ⟨g, 0, none⟩ a).setCell ⟨g, 1, none⟩ b).setCell ⟨g, 2, none⟩ c).cell? ⟨p, i, none⟩ = some v := by
  have e (k : Nat) : (⟨g, k, none⟩ : Addr) ≠ ⟨p, i, none⟩ := fun e => hp (by injection e with e1; exact e1.symm)
  rw [World.cell?_setCell_other _ _ _ _ (e 2), World.cell?_setCell_other _ _ _ _ (e 1), World.cell?_setCell_other _ _ _ _ (e 0)]
  exact h
set_option maxHeartbeats 1000000 in
theorem fell1_any (c : Rn) (m : Int) (p : Nat) (w : World) (h : RnOk c m) (hp : w.cell? ⟨p, 0, none⟩ = some (.int .i64 m)) :
    Calls Try.prog 23 #[rnW c, .pointer (some ⟨p, 0, none⟩)] w (RnIs w ⟨rnS m, rnH c m, 0⟩) := by
  have hc := h.c
  have hs := rnS_bd m
  unfold RnIs rnW
  have HV : Hid (∀ w, Calls Try.prog 25 #[.int .i64 c.c, .int .i64 1] w fun e w' => e = .returned (.int .i64 (c.c / 2)) ∧ Below w.heap.size w w') := Lib.hid (fun w => by
    have h := halve_any c.c 1 w (by omega) (by omega)
    rwa [hlv_one] at h)
  have SZ : Hid (∀ w, Calls Try.prog 24 #[.int .i64 m] w fun e w' => e = .returned (.int .i64 (rnS m)) ∧ w = w') := Lib.hid (fun w => sized_any m w)
  have TW : Hid (∀ w, Calls Try.prog 21 #[.int .i64 m] w fun e w' => e = .returned (.int .i64 (2 * rnS m)) ∧ w = w') := Lib.hid (fun w => twice24_any m w)
  have EX : Hid (max (c.c / 2) (2 * rnS m) = rnH c m) := Lib.hid rfl
  have S := Lib.hid (rn_start w c)
  have hp1 := cell_kept S.out.low hp
  have hne : p ≠ w.heap.size + 1 := by have := World.block_lt_of_cell? w _ hp; simp at this; omega
  have HNE := Lib.hid hne
  clear hne hp hc hs h
  generalize rnH c m = D at *
  generalize c.c / 2 = N at *
  generalize 2 * rnS m = T at *
  generalize rnS m = Z at *
  obtain ⟨x1, x2, x3⟩ := rnMax_is EX.out
  clear EX
  go_enter Try.func23, Try.ntmps23
  go_upto_region 1 with fail
  obtain ⟨W1, hW1⟩ : ∃ W1, (w.alloc (.cells #[.int .i64 c.c, .int .i64 c.t, .int .i64 c.k] 23)).alloc (.cells #[.int .i64 0, .int .i64 0, .int .i64 0] 23) = W1 := ⟨_, rfl⟩
  rw [hW1] at S hp1 ⊢
  clear hW1
  go_cut [] (fun wx => RnAt w wx c ⟨Z, D, 0⟩)
  case first =>
    have c0 := S.out.cur.cell 0 rfl
    go_region_held3 (fun w' => w'.cell? ⟨w.heap.size, 0, none⟩ = some (.int .i64 c.c) ∧ w'.cell? ⟨p, 0, none⟩ = some (.int .i64 m)) (first | exact two_kept B3 (by assumption) | exact C9.out | go_keep)
      (first
      | (go_at_call 24; refine (SZ.out _).mono ?_; rintro e w' ⟨rfl, rfl⟩)
      | (go_at_call 21; refine (TW.out _).mono ?_; rintro e w' ⟨rfl, rfl⟩)
      | (go_at_call 25; refine (HV.out _).mono ?_; rintro e w3 ⟨rfl, B3⟩
         replace B3 := new_undrew B3
         have K3 := Lib.hid (S.out.kept B3)
         have V := Lib.hid (K3.out.setR ⟨Z, D, 0⟩)
         have C9 := Lib.hid (And.intro (V.out.cur.cell 0 rfl) (rn_far (cell_kept B3 hp1) HNE.out (.int .i64 Z) (.int .i64 D) (.int .i64 0)))
         have r0 := K3.out.res.cell 0 rfl; have r1 := K3.out.res.cell 1 rfl; have r2 := K3.out.res.cell 2 rfl; have q0 := K3.out.res.frozen 0; have q1 := K3.out.res.frozen 1; have q2 := K3.out.res.frozen 2))
    all_goals
      go_wp2_with fail
      go_meet
      exact V.out
  case rest =>
    have S2 := Lib.hid hcut
    clear hcut S HV SZ TW x1 x2 x3
    go_wp2_with fail
    exact bodyPost_ret (v := .agg #[.int .i64 Z, .int .i64 D, .int .i64 0]) (by simp [results, Try.results23, go_sem, S2.out.res.cell 0 rfl, S2.out.res.cell 1 rfl, S2.out.res.cell 2 rfl]) rfl ⟨rfl, S2.out.low⟩

end Go.Proofs.Ytbfghiocfognlaa
