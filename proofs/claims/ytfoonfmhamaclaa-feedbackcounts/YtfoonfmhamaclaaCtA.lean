/- A receiver's count of few packets; leatref15's own Take and Bytes of it; leatlaw19.rose. -/
import Derived.Test.YtfoonfmhamaclaaFbkT
import Derived.Test.YtfoonfmhamaclaaSatE
namespace Go.Proofs.Ytfoonfmhamaclaa
open Go.ChangeShapes Go.WideShapes Go.ChangeAt Go.RowKit
set_option linter.unusedVariables false

structure Ct where
  (cep ceb e0 e1 : Int)
def ctV (c : Ct) : List Value := [.int .i64 c.cep, .int .i64 c.ceb, .int .i64 c.e0, .int .i64 c.e1]
def takT (c : Ct) (k n : Int) : Ct := if k = 3 then ⟨c.cep + 1, c.ceb + n, c.e0, c.e1⟩ else if k = 2 then ⟨c.cep, c.ceb, c.e0 + n, c.e1⟩ else if k = 1 then ⟨c.cep, c.ceb, c.e0, c.e1 + n⟩ else c
/-- Behind so many packets of such codes, each of n bytes. -/
def cfT (ks : List Int) (n : Int) : Nat → Ct
  | 0 => ⟨5, 0, 1, 1⟩
  | j + 1 => takT (cfT ks n j) (ks[j]?.getD 0 % 4) n
theorem cfT_succ (ks : List Int) (n : Int) (j : Nat) : cfT ks n (j + 1) = takT (cfT ks n j) (ks[j]?.getD 0 % 4) n := rfl
structure CtOk (j : Nat) (c : Ct) : Prop where
  cep : 5 ≤ c.cep ∧ c.cep ≤ 5 + (j : Int)
  ceb : 0 ≤ c.ceb ∧ c.ceb ≤ 65536 * (j : Int)
  e0 : 1 ≤ c.e0 ∧ c.e0 ≤ 1 + 65536 * (j : Int)
  e1 : 1 ≤ c.e1 ∧ c.e1 ≤ 1 + 65536 * (j : Int)
theorem cfT_ok (ks : List Int) {n : Int} (hn : 1 ≤ n ∧ n ≤ 65536) : ∀ j, CtOk j (cfT ks n j)
  | 0 => ⟨by simp [cfT], by simp [cfT], by simp [cfT], by simp [cfT]⟩
  | j + 1 => by
    obtain ⟨h1, h2, h3, h4⟩ := cfT_ok ks hn j
    unfold cfT takT
    split
    · exact ⟨by simp only []; omega, by simp only []; omega, by simp only []; omega, by simp only []; omega⟩
    · split
      · exact ⟨by simp only []; omega, by simp only []; omega, by simp only []; omega, by simp only []; omega⟩
      · split
        · exact ⟨by simp only []; omega, by simp only []; omega, by simp only []; omega, by simp only []; omega⟩
        · exact ⟨by omega, by omega, by omega, by omega⟩
/-- From one place to a later one nothing falls, and each marked packet brings its bytes. -/
theorem cfT_up (ks : List Int) {n : Int} (hn : 1 ≤ n ∧ n ≤ 65536) (i : Nat) : ∀ d : Nat, (cfT ks n i).cep ≤ (cfT ks n (i + d)).cep ∧ (cfT ks n i).ceb ≤ (cfT ks n (i + d)).ceb ∧ (cfT ks n i).e0 ≤ (cfT ks n (i + d)).e0 ∧ (cfT ks n i).e1 ≤ (cfT ks n (i + d)).e1 ∧ (cfT ks n (i + d)).ceb - (cfT ks n i).ceb = ((cfT ks n (i + d)).cep - (cfT ks n i).cep) * n
  | 0 => ⟨Int.le_refl _, Int.le_refl _, Int.le_refl _, Int.le_refl _, by simp⟩
  | d + 1 => by
    obtain ⟨h1, h2, h3, h4, h5⟩ := cfT_up ks hn i d
    rw [show i + (d + 1) = (i + d) + 1 by omega, cfT_succ]
    generalize cfT ks n (i + d) = y at *
    generalize (cfT ks n i) = x at *
    unfold takT
    split
    · refine ⟨by simp only []; omega, by simp only []; omega, h3, h4, ?_⟩
      show y.ceb + n - x.ceb = (y.cep + 1 - x.cep) * n
      have : (y.cep + 1 - x.cep) * n = (y.cep - x.cep) * n + n := by rw [show y.cep + 1 - x.cep = (y.cep - x.cep) + 1 by omega, Int.add_mul, Int.one_mul]
      omega
    · split
      · exact ⟨h1, h2, by simp only []; omega, h4, h5⟩
      · split
        · exact ⟨h1, h2, h3, by simp only []; omega, h5⟩
        · exact ⟨h1, h2, h3, h4, h5⟩
theorem cfT_le (ks : List Int) {n : Int} (hn : 1 ≤ n ∧ n ≤ 65536) {i j : Nat} (h : i ≤ j) : (cfT ks n i).cep ≤ (cfT ks n j).cep ∧ (cfT ks n i).ceb ≤ (cfT ks n j).ceb ∧ (cfT ks n i).e0 ≤ (cfT ks n j).e0 ∧ (cfT ks n i).e1 ≤ (cfT ks n j).e1 ∧ (cfT ks n j).ceb - (cfT ks n i).ceb = ((cfT ks n j).cep - (cfT ks n i).cep) * n := by
  have := cfT_up ks hn i (j - i)
  rwa [show i + (j - i) = j by omega] at this
theorem refTakeT_any (c : Ct) (k n : Int) (j : Nat) (w : World) (ok : CtOk j c) (hj : j ≤ 100) (hn : 1 ≤ n ∧ n ≤ 65536) :
    Calls Try.prog 29 #[.agg #[.int .i64 c.cep, .int .i64 c.ceb, .int .i64 c.e0, .int .i64 c.e1], .int .i64 k, .int .i64 n] w fun e w' => e = .returned (.agg #[.int .i64 (takT c k n).cep, .int .i64 (takT c k n).ceb, .int .i64 (takT c k n).e0, .int .i64 (takT c k n).e1]) ∧ Below w.heap.size w w' := by
  obtain ⟨r1, r2, r3, r4⟩ := ok
  have a1 := Lib.hid (fun w => refAdd_any c.cep 1 w (by omega) (by omega))
  have a2 := Lib.hid (fun w => refAdd_any c.ceb n w (by omega) (by omega))
  have a3 := Lib.hid (fun w => refAdd_any c.e0 n w (by omega) (by omega))
  have a4 := Lib.hid (fun w => refAdd_any c.e1 n w (by omega) (by omega))
  rw [sat64_id (by omega)] at a1 a2 a3 a4
  have q1 : 0 ≤ n := by omega
  have q2 : n ≤ 65536 := hn.2
  have q3 : (if n < 0 then 0 else n) = n := if_neg (by omega)
  have q4 : (if 65536 < n then 65536 else n) = n := if_neg (by omega)
  clear r1 r2 r3 r4
  unfold takT
  by_cases h3 : k = 3
  · subst h3
    rw [if_pos rfl]
    go_enter Try.func29, Try.ntmps29
    go_wp2_with (first
      | (go_at_call_of 41 (Value.int IntKind.i64 c.cep); refine (a1.out _).mono ?_; rintro e w' ⟨rfl, rfl⟩)
      | (go_at_call_of 41 (Value.int IntKind.i64 c.ceb); refine (a2.out _).mono ?_; rintro e w' ⟨rfl, rfl⟩))
    refine bodyPost_ret (v := .agg #[.int .i64 _, .int .i64 _, .int .i64 _, .int .i64 _]) (by simp [results, Try.results29, go_sem]) rfl ⟨rfl, new_alloc (new_alloc (new_refl w) _) _⟩
  · rw [if_neg h3]
    by_cases h2 : k = 2
    · subst h2
      rw [if_pos rfl]
      go_enter Try.func29, Try.ntmps29
      go_wp2_with (first
        | (go_at_call_of 41 (Value.int IntKind.i64 c.e0); refine (a3.out _).mono ?_; rintro e w' ⟨rfl, rfl⟩))
      refine bodyPost_ret (v := .agg #[.int .i64 _, .int .i64 _, .int .i64 _, .int .i64 _]) (by simp [results, Try.results29, go_sem]) rfl ⟨rfl, new_alloc (new_alloc (new_refl w) _) _⟩
    · rw [if_neg h2]
      by_cases h1 : k = 1
      · subst h1
        rw [if_pos rfl]
        go_enter Try.func29, Try.ntmps29
        go_wp2_with (first
          | (go_at_call_of 41 (Value.int IntKind.i64 c.e1); refine (a4.out _).mono ?_; rintro e w' ⟨rfl, rfl⟩))
        refine bodyPost_ret (v := .agg #[.int .i64 _, .int .i64 _, .int .i64 _, .int .i64 _]) (by simp [results, Try.results29, go_sem]) rfl ⟨rfl, new_alloc (new_alloc (new_refl w) _) _⟩
      · rw [if_neg h1]
        go_enter Try.func29, Try.ntmps29
        go_wp2_with fail
        refine bodyPost_ret (v := .agg #[.int .i64 _, .int .i64 _, .int .i64 _, .int .i64 _]) (by simp [results, Try.results29, go_sem]) rfl ⟨rfl, new_alloc (new_alloc (new_refl w) _) _⟩
theorem lowT_any (x : Int) (w : World) (h : 0 ≤ x ∧ x ≤ 9223372036854775807) : Calls Try.prog 30 #[.int .i64 x, .int .i64 16777216] w fun e w' => e = .returned (.int .i64 (x % 16777216)) ∧ w = w' := by
  have T := Int.tmod_eq_emod_of_nonneg (b := 16777216) h.1
  have T0 : ¬ x.tmod 16777216 < 0 := by rw [T]; omega
  have HT := Lib.hid T
  clear T
  go_enter Try.func30, Try.ntmps30
  go_wp2_with fail
  go_ret
  exact ⟨rfl, rfl⟩
theorem lowT3 {w0 w : World} {p : Nat} (h : Below w0.heap.size w0 w) (hp : w0.heap.size ≤ p) (a b c : Value) :
    Below w0.heap.size w0 (((w.setCell ⟨p, 0, none⟩ a).setCell ⟨p, 1, none⟩ b).setCell ⟨p, 2, none⟩ c) :=
  new_set (new_set (new_set h (p := ⟨p, 0, none⟩) hp a) (p := ⟨p, 1, none⟩) hp b) (p := ⟨p, 2, none⟩) hp c
def BytT (w : World) (c : Ct) (e : Ending) (w' : World) : Prop := e = .returned (.agg #[.int .i64 (c.e0 % 16777216), .int .i64 (c.ceb % 16777216), .int .i64 (c.e1 % 16777216)]) ∧ Below w.heap.size w w'
set_option maxHeartbeats 1000000 in
theorem refBytesT_any (c : Ct) (j : Nat) (ok : CtOk j c) (hj : j ≤ 100) (w : World) : Calls Try.prog 14 #[.agg #[.int .i64 c.cep, .int .i64 c.ceb, .int .i64 c.e0, .int .i64 c.e1]] w (BytT w c) := by
  have k1 := ok.ceb; have k2 := ok.e0; have k3 := ok.e1
  have C1 := Lib.hid (fun w => lowT_any c.ceb w (by omega))
  have C2 := Lib.hid (fun w => lowT_any c.e0 w (by omega))
  have C3 := Lib.hid (fun w => lowT_any c.e1 w (by omega))
  have A := (Blk.new w (ctV c) 51).alloc (.cells #[.int .i64 0, .int .i64 0, .int .i64 0] 25)
  have R := Blk.newAt (alloc_size w (.cells #[.int .i64 c.cep, .int .i64 c.ceb, .int .i64 c.e0, .int .i64 c.e1] 51)) [.int .i64 0, .int .i64 0, .int .i64 0] 25
  have L := new_alloc (new_alloc (new_refl w) (.cells #[.int .i64 c.cep, .int .i64 c.ceb, .int .i64 c.e0, .int .i64 c.e1] 51)) (.cells #[.int .i64 0, .int .i64 0, .int .i64 0] 25)
  clear k1 k2 k3 ok hj
  unfold ctV at A
  unfold BytT
  go_enter Try.func14, Try.ntmps14
  go_upto_region 1 with (fail)
  generalize (w.alloc (.cells #[.int .i64 c.cep, .int .i64 c.ceb, .int .i64 c.e0, .int .i64 c.e1] 51)).alloc (.cells #[.int .i64 0, .int .i64 0, .int .i64 0] 25) = W at *
  have c1 := A.cell 1 rfl
  have c2 := A.cell 2 rfl
  have c3 := A.cell 3 rfl
  have r0 := R.cell 0 rfl
  have r1 := R.cell 1 rfl
  have r2 := R.cell 2 rfl
  have f0 := R.frozen 0
  have f1 := R.frozen 1
  have f2 := R.frozen 2
  have hne : w.heap.size ≠ w.heap.size + 1 := by omega
  have HL := Lib.hid L
  clear A R L
  go_region_held3 (fun w' => w'.cell? ⟨w.heap.size, 1, none⟩ = some (.int .i64 c.ceb) ∧ w'.cell? ⟨w.heap.size, 2, none⟩ = some (.int .i64 c.e0) ∧ w'.cell? ⟨w.heap.size, 3, none⟩ = some (.int .i64 c.e1))
    (first | go_keep | assumption)
    (first
      | (go_at_call_of 30 (Value.int IntKind.i64 c.e0); refine (C2.out _).mono ?_; rintro e w3 ⟨rfl, rfl⟩)
      | (go_at_call_of 30 (Value.int IntKind.i64 c.ceb); refine (C1.out _).mono ?_; rintro e w3 ⟨rfl, rfl⟩)
      | (go_at_call_of 30 (Value.int IntKind.i64 c.e1); refine (C3.out _).mono ?_; rintro e w3 ⟨rfl, rfl⟩))
  all_goals
    go_wp2_with fail
    exact bodyPost_ret (v := .agg #[.int .i64 (c.e0 % 16777216), .int .i64 (c.ceb % 16777216), .int .i64 (c.e1 % 16777216)]) (by simp [results, Try.results14, go_sem, r0, r1, r2]) rfl ⟨rfl, lowT3 (new_drew HL.out) (Nat.le_succ _) _ _ _⟩
theorem roseT_any (c d : Ct) (i j : Nat) (hc : CtOk i c) (hd : CtOk j d) (hi : i ≤ 100) (hj : j ≤ 100) (w : World) : Calls Try.prog 15 #[.agg #[.int .i64 c.cep, .int .i64 c.ceb, .int .i64 c.e0, .int .i64 c.e1], .agg #[.int .i64 d.cep, .int .i64 d.ceb, .int .i64 d.e0, .int .i64 d.e1]] w fun e w' => e = .returned (.bool true) ∧ Below w.heap.size w w' := by
  obtain ⟨p1, p2, p3, p4⟩ := hc
  obtain ⟨q1, q2, q3, q4⟩ := hd
  have A := (Blk.new w (ctV c) 51).alloc (.cells #[.int .i64 d.cep, .int .i64 d.ceb, .int .i64 d.e0, .int .i64 d.e1] 51)
  have B := Blk.newAt (alloc_size w (.cells #[.int .i64 c.cep, .int .i64 c.ceb, .int .i64 c.e0, .int .i64 c.e1] 51)) (ctV d) 51
  have L := Lib.hid (new_alloc (new_alloc (new_refl w) (.cells #[.int .i64 c.cep, .int .i64 c.ceb, .int .i64 c.e0, .int .i64 c.e1] 51)) (.cells #[.int .i64 d.cep, .int .i64 d.ceb, .int .i64 d.e0, .int .i64 d.e1] 51))
  have c1 := A.cell 1 rfl
  have c2 := A.cell 2 rfl
  have c3 := A.cell 3 rfl
  have d1 := B.cell 1 rfl
  have d2 := B.cell 2 rfl
  have d3 := B.cell 3 rfl
  have t1 : d.ceb - c.ceb < 8388608 := by omega
  have t2 : d.e0 - c.e0 < 8388608 := by omega
  have t3 : d.e1 - c.e1 < 8388608 := by omega
  have u1 : IntKind.i64.wrap (d.ceb - c.ceb) = d.ceb - c.ceb := by rw [IntKind.wrap_i64]; omega
  have u2 : IntKind.i64.wrap (d.e0 - c.e0) = d.e0 - c.e0 := by rw [IntKind.wrap_i64]; omega
  have u3 : IntKind.i64.wrap (d.e1 - c.e1) = d.e1 - c.e1 := by rw [IntKind.wrap_i64]; omega
  clear A B p1 p2 p3 p4 q1 q2 q3 q4
  go_enter Try.func15, Try.ntmps15
  go_wp2_with fail
  go_ret
  exact ⟨rfl, L.out⟩
end Go.Proofs.Ytfoonfmhamaclaa
