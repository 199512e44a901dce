/- Package count: the fields, the option. The document's own; the chapter's example. -/
import Derived.Test.YtdibhpiafipibaaCntB
namespace Go.Proofs.Ytdibhpiafipibaa
open Go.RowKit
set_option linter.unusedVariables false

def BytTo (w : World) (c : Cn) (e : Ending) (w' : World) : Prop := e = .returned (.agg #[.int .i64 (loO c.e0), .int .i64 (loO c.ceb), .int .i64 (loO c.e1)]) ∧ Below w.heap.size w w'
theorem low3 {w0 w : World} {p : Nat} (h : Below w0.heap.size w0 w) (hp : w0.heap.size ≤ p) (a b c : Value) :
    Below w0.heap.size w0 (((w.setCell ⟨p, 0, none⟩ a).setCell ⟨p, 1, none⟩ b).setCell ⟨p, 2, none⟩ c) :=
  new_set (new_set (new_set h (p := ⟨p, 0, none⟩) hp a) (p := ⟨p, 1, none⟩) hp b) (p := ⟨p, 2, none⟩) hp c
set_option maxHeartbeats 1000000 in
theorem bytes15_any (c : Cn) (ok : CnOk c) (w : World) : Calls Try.prog 14 #[.agg #[.int .i64 c.cep, .int .i64 c.ceb, .int .i64 c.e0, .int .i64 c.e1]] w (BytTo w c) := by
  have CM : Hid (∀ x w, i64R x → Calls Try.prog 23 #[.int .i64 x, .int .i64 16777216] w fun e w' => e = .returned (.int .i64 (loO x)) ∧ w = w') := Lib.hid (fun x w h => by
    have := satMod_any x 16777216 w h (by omega)
    rw [show fmd x 16777216 = loO x by rw [fmd, if_neg (by omega), loO]] at this
    exact this)
  have h1 := ok.ceb; have h2 := ok.e0; have h3 := ok.e1
  have S := cnt_start w c
  have A := (Blk.new w (cnV c) 23).alloc (.cells #[.int .i64 0, .int .i64 0, .int .i64 0] 36)
  have R := Blk.newAt (alloc_size w (.cells #[.int .i64 c.cep, .int .i64 c.ceb, .int .i64 c.e0, .int .i64 c.e1] 23)) [.int .i64 0, .int .i64 0, .int .i64 0] 36
  have L := new_alloc (new_alloc (new_refl w) (.cells #[.int .i64 c.cep, .int .i64 c.ceb, .int .i64 c.e0, .int .i64 c.e1] 23)) (.cells #[.int .i64 0, .int .i64 0, .int .i64 0] 36)
  clear S
  unfold BytTo
  go_enter Try.func14, Try.ntmps14
  go_upto_region 1 with (fail)
  generalize (w.alloc (.cells #[.int .i64 c.cep, .int .i64 c.ceb, .int .i64 c.e0, .int .i64 c.e1] 23)).alloc (.cells #[.int .i64 0, .int .i64 0, .int .i64 0] 36) = W at *
  have c1 := A.cell 1 rfl
  have c2 := A.cell 2 rfl
  have c3 := A.cell 3 rfl
  have r0 := R.cell 0 rfl
  have r1 := R.cell 1 rfl
  have r2 := R.cell 2 rfl
  have f0 := R.frozen 0
  have f1 := R.frozen 1
  have f2 := R.frozen 2
  have hne : w.heap.size ≠ w.heap.size + 1 := by omega
  have HL := Lib.hid L
  clear A R L
  go_region_held3 (fun w' => w'.cell? ⟨w.heap.size, 1, none⟩ = some (.int .i64 c.ceb) ∧ w'.cell? ⟨w.heap.size, 2, none⟩ = some (.int .i64 c.e0) ∧ w'.cell? ⟨w.heap.size, 3, none⟩ = some (.int .i64 c.e1))
    (first | go_keep | assumption)
    (first
      | (go_at_call_of 23 (Value.int IntKind.i64 c.e0); refine (CM.out _ _ h2).mono ?_; rintro e w3 ⟨rfl, rfl⟩)
      | (go_at_call_of 23 (Value.int IntKind.i64 c.ceb); refine (CM.out _ _ h1).mono ?_; rintro e w3 ⟨rfl, rfl⟩)
      | (go_at_call_of 23 (Value.int IntKind.i64 c.e1); refine (CM.out _ _ h3).mono ?_; rintro e w3 ⟨rfl, rfl⟩))
  all_goals
    go_wp2_with fail
    exact bodyPost_ret (v := .agg #[.int .i64 (loO c.e0), .int .i64 (loO c.ceb), .int .i64 (loO c.e1)]) (by simp [results, Try.results14, go_sem, r0, r1, r2]) rfl ⟨rfl, low3 (new_drew HL.out) (Nat.le_succ _) _ _ _⟩
set_option maxHeartbeats 1000000 in
theorem refBytes15_any (c : Cn) (ok : CnOk c) (w : World) : Calls Try.prog 15 #[.agg #[.int .i64 c.cep, .int .i64 c.ceb, .int .i64 c.e0, .int .i64 c.e1]] w (BytTo w c) := by
  have CM : Hid (∀ x w, i64R x → Calls Try.prog 13 #[.int .i64 x, .int .i64 16777216] w fun e w' => e = .returned (.int .i64 (loO x)) ∧ w = w') := Lib.hid (fun x w h => by
    have := refLow15_any x 16777216 w h (by omega)
    rw [show x % 16777216 = loO x from rfl] at this
    exact this)
  have h1 := ok.ceb; have h2 := ok.e0; have h3 := ok.e1
  have S := cnt_start w c
  have A := (Blk.new w (cnV c) 23).alloc (.cells #[.int .i64 0, .int .i64 0, .int .i64 0] 36)
  have R := Blk.newAt (alloc_size w (.cells #[.int .i64 c.cep, .int .i64 c.ceb, .int .i64 c.e0, .int .i64 c.e1] 23)) [.int .i64 0, .int .i64 0, .int .i64 0] 36
  have L := new_alloc (new_alloc (new_refl w) (.cells #[.int .i64 c.cep, .int .i64 c.ceb, .int .i64 c.e0, .int .i64 c.e1] 23)) (.cells #[.int .i64 0, .int .i64 0, .int .i64 0] 36)
  clear S
  unfold BytTo
  go_enter Try.func15, Try.ntmps15
  go_upto_region 1 with (fail)
  generalize (w.alloc (.cells #[.int .i64 c.cep, .int .i64 c.ceb, .int .i64 c.e0, .int .i64 c.e1] 23)).alloc (.cells #[.int .i64 0, .int .i64 0, .int .i64 0] 36) = W at *
  have c1 := A.cell 1 rfl
  have c2 := A.cell 2 rfl
  have c3 := A.cell 3 rfl
  have r0 := R.cell 0 rfl
  have r1 := R.cell 1 rfl
  have r2 := R.cell 2 rfl
  have f0 := R.frozen 0
  have f1 := R.frozen 1
  have f2 := R.frozen 2
  have hne : w.heap.size ≠ w.heap.size + 1 := by omega
  have HL := Lib.hid L
  clear A R L
  go_region_held3 (fun w' => w'.cell? ⟨w.heap.size, 1, none⟩ = some (.int .i64 c.ceb) ∧ w'.cell? ⟨w.heap.size, 2, none⟩ = some (.int .i64 c.e0) ∧ w'.cell? ⟨w.heap.size, 3, none⟩ = some (.int .i64 c.e1))
    (first | go_keep | assumption)
    (first
      | (go_at_call_of 13 (Value.int IntKind.i64 c.e0); refine (CM.out _ _ h2).mono ?_; rintro e w3 ⟨rfl, rfl⟩)
      | (go_at_call_of 13 (Value.int IntKind.i64 c.ceb); refine (CM.out _ _ h1).mono ?_; rintro e w3 ⟨rfl, rfl⟩)
      | (go_at_call_of 13 (Value.int IntKind.i64 c.e1); refine (CM.out _ _ h3).mono ?_; rintro e w3 ⟨rfl, rfl⟩))
  all_goals
    go_wp2_with fail
    exact bodyPost_ret (v := .agg #[.int .i64 (loO c.e0), .int .i64 (loO c.ceb), .int .i64 (loO c.e1)]) (by simp [results, Try.results15, go_sem, r0, r1, r2]) rfl ⟨rfl, low3 (new_drew HL.out) (Nat.le_succ _) _ _ _⟩

theorem lo_lo (x : Int) : loO (loO x) = loO x := by unfold loO; omega
theorem acc_lo (k a b c : Int) (M : Nat) : accO k (loO a) (loO b) (loO c) M = accO k a b c M := by
  have h : acN (kdA k) (loO a) (loO b) (loO c) = acN (kdA k) a b c := by
    funext i
    unfold acN srcA
    split
    · exact lo_lo _
    · split <;> exact lo_lo _
  unfold accO acL
  rw [h]
def kd15 (t : Int) : Int := if t.tmod 2 = 0 then 172 else 174
def opC (c : Cn) (t : Int) : Opt := accO (kd15 t) c.e0 c.ceb c.e1 3
set_option maxHeartbeats 1000000 in
theorem opt15_any (c : Cn) (ok : CnOk c) (t : Int) (w : World) : Calls Try.prog 11 #[.agg #[.int .i64 c.cep, .int .i64 c.ceb, .int .i64 c.e0, .int .i64 c.e1], .int .i64 t] w (MadeO w (opC c t)) := by
  have CA : Hid (∀ k w, Calls Try.prog 22 #[.int .i64 k, .int .i64 (loO c.e0), .int .i64 (loO c.ceb), .int .i64 (loO c.e1), .int .i64 3] w (MadeO w (accO k c.e0 c.ceb c.e1 3))) := Lib.hid (fun k w => by
    have := acc_any k (loO c.e0) (loO c.ceb) (loO c.e1) 3 w
    rw [acc_lo] at this
    exact this)
  have CB := Lib.hid (bytes15_any c ok)
  clear ok
  unfold MadeO
  have B0 := (Blk.newAt (alloc_size w (.cells #[.int .i64 c.cep, .int .i64 c.ceb, .int .i64 c.e0, .int .i64 c.e1] 23)) [.int .i64 0, .slice none 0 0, .string ByteArray.empty] 32)
  have L0 := new_alloc (new_alloc (new_refl w) (.cells #[.int .i64 c.cep, .int .i64 c.ceb, .int .i64 c.e0, .int .i64 c.e1] 23)) (.cells #[.int .i64 0, .slice none 0 0, .string ByteArray.empty] 32)
  by_cases hk : t.tmod 2 = 0
  · have K : Hid (opC c t = accO 172 c.e0 c.ceb c.e1 3) := Lib.hid (by rw [opC, kd15, if_pos hk])
    go_enter Try.func11, Try.ntmps11
    go_wp2_with (first
      | (go_at_call 22; refine (CA.out _ _).mono ?_; rintro e w2 ⟨A, n, cp, rfl, H, B2⟩
         have B3 := new_then (new_alloc B1 _) B2
         have O := B0.kept B3
         have r0 := O.cell 0 rfl
         have r1 := O.cell 1 rfl
         have r2 := O.cell 2 rfl
         have f0 := O.frozen 0
         have f1 := O.frozen 1
         have f2 := O.frozen 2)
      | (go_at_call 14; refine (CB.out _).mono ?_; rintro e w1 ⟨rfl, B1⟩))
    exact bodyPost_ret (v := .agg #[.int .i64 (accO 172 c.e0 c.ceb c.e1 3).k, .slice A n cp, .string (accO 172 c.e0 c.ceb c.e1 3).s]) (by simp [results, Try.results11, go_sem, r0, r1, r2]) rfl ⟨A, n, cp, by rw [K.out], by rw [K.out]; exact H.apart3 O, new_set3 (new_then L0 B3) (Nat.le_succ _) _ _ _⟩
  · have K : Hid (opC c t = accO 174 c.e0 c.ceb c.e1 3) := Lib.hid (by rw [opC, kd15, if_neg hk])
    have hk' : (t.tmod 2 == 0) = false := by simp [hk]
    go_enter Try.func11, Try.ntmps11
    go_wp2_with (first
      | (go_at_call 22; refine (CA.out _ _).mono ?_; rintro e w2 ⟨A, n, cp, rfl, H, B2⟩
         have B3 := new_then (new_alloc B1 _) B2
         have O := B0.kept B3
         have r0 := O.cell 0 rfl
         have r1 := O.cell 1 rfl
         have r2 := O.cell 2 rfl
         have f0 := O.frozen 0
         have f1 := O.frozen 1
         have f2 := O.frozen 2)
      | (go_at_call 14; refine (CB.out _).mono ?_; rintro e w1 ⟨rfl, B1⟩))
    exact bodyPost_ret (v := .agg #[.int .i64 (accO 174 c.e0 c.ceb c.e1 3).k, .slice A n cp, .string (accO 174 c.e0 c.ceb c.e1 3).s]) (by simp [results, Try.results11, go_sem, r0, r1, r2]) rfl ⟨A, n, cp, by rw [K.out], by rw [K.out]; exact H.apart3 O, new_set3 (new_then L0 B3) (Nat.le_succ _) _ _ _⟩
set_option maxHeartbeats 1000000 in
theorem refOpt15_any (c : Cn) (ok : CnOk c) (t : Int) (w : World) : Calls Try.prog 17 #[.agg #[.int .i64 c.cep, .int .i64 c.ceb, .int .i64 c.e0, .int .i64 c.e1], .int .i64 t] w (MadeO w (opC c t)) := by
  have r1 := ok.ceb; have r2 := ok.e0; have r3 := ok.e1
  unfold i64R at r1 r2 r3
  have CA : Hid (∀ k w, Calls Try.prog 24 #[.int .i64 k, .int .i64 c.e0, .int .i64 c.ceb, .int .i64 c.e1, .int .i64 3] w (MadeO w (accO k c.e0 c.ceb c.e1 3))) := Lib.hid (fun k w => refAcc_any k c.e0 c.ceb c.e1 3 w r2 r1 r3)
  clear r1 r2 r3
  clear ok
  unfold MadeO
  have B0 := (Blk.newAt (alloc_size w (.cells #[.int .i64 c.cep, .int .i64 c.ceb, .int .i64 c.e0, .int .i64 c.e1] 23)) [.int .i64 0, .slice none 0 0, .string ByteArray.empty] 32)
  have L0 := new_alloc (new_alloc (new_refl w) (.cells #[.int .i64 c.cep, .int .i64 c.ceb, .int .i64 c.e0, .int .i64 c.e1] 23)) (.cells #[.int .i64 0, .slice none 0 0, .string ByteArray.empty] 32)
  by_cases hk : t.tmod 2 = 0
  · have K : Hid (opC c t = accO 172 c.e0 c.ceb c.e1 3) := Lib.hid (by rw [opC, kd15, if_pos hk])
    go_enter Try.func17, Try.ntmps17
    go_wp2_with (first
      | (go_at_call 24; refine (CA.out _ _).mono ?_; rintro e w2 ⟨A, n, cp, rfl, H, B3⟩
         have O := B0.kept B3
         have r0 := O.cell 0 rfl
         have r1 := O.cell 1 rfl
         have r2 := O.cell 2 rfl
         have f0 := O.frozen 0
         have f1 := O.frozen 1
         have f2 := O.frozen 2))
    exact bodyPost_ret (v := .agg #[.int .i64 (accO 172 c.e0 c.ceb c.e1 3).k, .slice A n cp, .string (accO 172 c.e0 c.ceb c.e1 3).s]) (by simp [results, Try.results17, go_sem, r0, r1, r2]) rfl ⟨A, n, cp, by rw [K.out], by rw [K.out]; exact H.apart3 O, new_set3 (new_then L0 B3) (Nat.le_succ _) _ _ _⟩
  · have K : Hid (opC c t = accO 174 c.e0 c.ceb c.e1 3) := Lib.hid (by rw [opC, kd15, if_neg hk])
    have hk' : (t.tmod 2 == 0) = false := by simp [hk]
    go_enter Try.func17, Try.ntmps17
    go_wp2_with (first
      | (go_at_call 24; refine (CA.out _ _).mono ?_; rintro e w2 ⟨A, n, cp, rfl, H, B3⟩
         have O := B0.kept B3
         have r0 := O.cell 0 rfl
         have r1 := O.cell 1 rfl
         have r2 := O.cell 2 rfl
         have f0 := O.frozen 0
         have f1 := O.frozen 1
         have f2 := O.frozen 2))
    exact bodyPost_ret (v := .agg #[.int .i64 (accO 174 c.e0 c.ceb c.e1 3).k, .slice A n cp, .string (accO 174 c.e0 c.ceb c.e1 3).s]) (by simp [results, Try.results17, go_sem, r0, r1, r2]) rfl ⟨A, n, cp, by rw [K.out], by rw [K.out]; exact H.apart3 O, new_set3 (new_then L0 B3) (Nat.le_succ _) _ _ _⟩
end Go.Proofs.Ytdibhpiafipibaa
